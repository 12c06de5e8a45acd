/-
  Rows of places, each with where its pieces lie.
  Conditions: none.
-/
import Derived.Test.YtkgkanmccaodfaaM05
import Derived.Test.YtkgkanmccaodfaaM04
import Derived.Test.YtkgkanmccaodfaaM03
import Derived.Test.YtkgkanmccaodfaaM02
import Derived.Shelf.RegionOpenPlain
import Derived.Laws.MakeOwn

/-
  How many ticks are available: as the document reckons it; a want woven tick by tick.
  Conditions: none.
-/
set_option linter.unusedVariables false
namespace Go.Proofs.Ytkgkanmccaodfaa

/-! ### The least sum, set by set -/
def leastL : List (Nat × Nat) → Nat → Nat → Nat
  | [], i, o => cnt i + o
  | x :: l, i, o => if x.2 = 0 then leastL l i o else min (leastL l (i ||| x.1) o) (leastL l i (o + x.2))
def gL (l : List (Nat × Nat)) (c t : Nat) : Bool := ((l[c]?.getD (0, 0)).1).testBit t
def rL (l : List (Nat × Nat)) (c : Nat) : Nat := (l[c]?.getD (0, 0)).2
def cutI (l : List (Nat × Nat)) (i o : Nat) (S : Nat → Bool) : Nat := cnF (fun t => i.testBit t || uniB l.length (gL l) S t) 64 + (o + sumTo (fun c => if S c = true then 0 else rL l c) l.length)
theorem cnt_F (m : Nat) : cnt m = cnF (fun t => m.testBit t) 64 := by
  have h : ∀ k, cntT m k = cnF (fun t => m.testBit t) k := by
    intro k
    induction k with
    | zero => rfl
    | succ k ih => rw [cntT_succ, cnF, ih]
  exact h 64
theorem smF_cons (f : Nat → Nat) : ∀ n : Nat, sumTo f (n + 1) = f 0 + sumTo (fun c => f (c + 1)) n
  | 0 => by rw [sumTo, sumTo, sumTo]; omega
  | n + 1 => by rw [sumTo, smF_cons f n, sumTo]; omega
def consS (b : Bool) (S : Nat → Bool) : Nat → Bool
  | 0 => b
  | c + 1 => S c
theorem cons_self (S : Nat → Bool) : consS (S 0) (fun c => S (c + 1)) = S := by
  funext c
  cases c <;> rfl
theorem uni_cons (x : Nat × Nat) (l : List (Nat × Nat)) (b : Bool) (S : Nat → Bool) (t : Nat) : uniB (x :: l).length (gL (x :: l)) (consS b S) t = (b && x.1.testBit t || uniB l.length (gL l) S t) := by
  rw [Bool.eq_iff_iff, Bool.or_eq_true, Bool.and_eq_true, uniB_iff, uniB_iff, List.length_cons]
  constructor
  · rintro ⟨c, h1, h2, h3⟩
    cases c with
    | zero => exact .inl ⟨h2, h3⟩
    | succ c => exact .inr ⟨c, by omega, h2, by simpa [gL] using h3⟩
  · rintro (⟨h1, h2⟩ | ⟨c, h1, h2, h3⟩)
    · exact ⟨0, by omega, h1, h2⟩
    · exact ⟨c + 1, by omega, h2, by simpa [gL] using h3⟩
theorem cut_in (x : Nat × Nat) (l : List (Nat × Nat)) (i o : Nat) (S : Nat → Bool) : cutI (x :: l) i o (consS true S) = cutI l (i ||| x.1) o S := by
  unfold cutI
  rw [List.length_cons, smF_cons]
  have h1 : cnF (fun t => i.testBit t || uniB (l.length + 1) (gL (x :: l)) (consS true S) t) 64 = cnF (fun t => (i ||| x.1).testBit t || uniB l.length (gL l) S t) 64 := cnF_congr 64 fun t _ => by
    have := uni_cons x l true S t
    rw [List.length_cons] at this
    rw [this, Nat.testBit_or, Bool.true_and, Bool.or_assoc]
  have h2 : sumTo (fun c => if consS true S (c + 1) = true then 0 else rL (x :: l) (c + 1)) l.length = sumTo (fun c => if S c = true then 0 else rL l c) l.length := smF_congr _ fun c _ => by
    show (if S c = true then 0 else rL (x :: l) (c + 1)) = _
    simp [rL]
  rw [h1, h2]
  show _ + (o + (0 + _)) = _
  rw [Nat.zero_add]
theorem cut_out (x : Nat × Nat) (l : List (Nat × Nat)) (i o : Nat) (S : Nat → Bool) : cutI (x :: l) i o (consS false S) = cutI l i (o + x.2) S := by
  unfold cutI
  rw [List.length_cons, smF_cons]
  have h1 : cnF (fun t => i.testBit t || uniB (l.length + 1) (gL (x :: l)) (consS false S) t) 64 = cnF (fun t => i.testBit t || uniB l.length (gL l) S t) 64 := cnF_congr 64 fun t _ => by
    have := uni_cons x l false S t
    rw [List.length_cons] at this
    rw [this, Bool.false_and, Bool.false_or]
  have h2 : sumTo (fun c => if consS false S (c + 1) = true then 0 else rL (x :: l) (c + 1)) l.length = sumTo (fun c => if S c = true then 0 else rL l c) l.length := smF_congr _ fun c _ => by
    show (if S c = true then 0 else rL (x :: l) (c + 1)) = _
    simp [rL]
  rw [h1, h2]
  have h3 : (if consS false S 0 = true then 0 else rL (x :: l) 0) = x.2 := by simp [consS, rL]
  rw [h3]
  omega
/-- Whoever has no room may be in the set for nothing. -/
theorem cut_more (l : List (Nat × Nat)) (i j o : Nat) (S : Nat → Bool) : cutI l i o S ≤ cutI l (i ||| j) o S := by
  unfold cutI
  have := cnF_le (p := fun t => i.testBit t || uniB l.length (gL l) S t) (q := fun t => (i ||| j).testBit t || uniB l.length (gL l) S t) 64 fun t _ h => by
    rw [Nat.testBit_or]
    rw [Bool.or_eq_true] at h
    rcases h with h | h <;> rw [h] <;> simp
  omega
theorem least_low : ∀ (l : List (Nat × Nat)) (i o : Nat) (S : Nat → Bool), leastL l i o ≤ cutI l i o S
  | [], i, o, S => by
    unfold leastL cutI
    rw [cnt_F]
    have := cnF_le (p := fun t => i.testBit t) (q := fun t => i.testBit t || uniB ([] : List (Nat × Nat)).length (gL []) S t) 64 fun t _ h => by rw [h]; rfl
    omega
  | x :: l, i, o, S => by
    rw [← cons_self S]
    generalize (fun c => S (c + 1)) = T
    unfold leastL
    cases S 0 with
    | true =>
      rw [cut_in]
      split
      · exact Nat.le_trans (least_low l i o T) (cut_more l i x.1 o T)
      · exact Nat.le_trans (Nat.min_le_left _ _) (least_low l (i ||| x.1) o T)
    | false =>
      rw [cut_out]
      split
      · rename_i hz
        rw [hz]
        exact least_low l i o T
      · exact Nat.le_trans (Nat.min_le_right _ _) (least_low l i (o + x.2) T)
theorem least_is : ∀ (l : List (Nat × Nat)) (i o : Nat), ∃ S, cutI l i o S = leastL l i o
  | [], i, o => ⟨fun _ => false, by
    unfold leastL cutI
    rw [cnt_F]
    have := cnF_congr (p := fun t => i.testBit t || uniB ([] : List (Nat × Nat)).length (gL []) (fun _ => false) t) (q := fun t => i.testBit t) 64 fun t _ => by
      show (i.testBit t || false) = _
      rw [Bool.or_false]
    rw [this]
    rfl⟩
  | x :: l, i, o => by
    unfold leastL
    split
    · rename_i hz
      obtain ⟨S, hS⟩ := least_is l i o
      exact ⟨consS false S, by rw [cut_out, hz]; exact hS⟩
    · by_cases hle : leastL l (i ||| x.1) o ≤ leastL l i (o + x.2)
      · obtain ⟨S, hS⟩ := least_is l (i ||| x.1) o
        exact ⟨consS true S, by rw [cut_in, hS, Nat.min_eq_left hle]⟩
      · obtain ⟨S, hS⟩ := least_is l i (o + x.2)
        exact ⟨consS false S, by rw [cut_out, hS, Nat.min_eq_right (by omega)]⟩

/-! ### How many ticks are available from a tick on -/
/-- The ticks of a mask from k on. -/
def fromN (k m : Nat) : Nat := setP fun t => m.testBit t && decide (k ≤ t)
theorem fromN_bit {k m t : Nat} (ht : t < 64) : (fromN k m).testBit t = (m.testBit t && decide (k ≤ t)) := by
  unfold fromN
  rw [setP_bit, decide_eq_true ht, Bool.true_and]
def rowG (gm r : Nat → Nat) (k : Nat) : List (Nat × Nat) := (List.range 16).map fun c => (fromN k (gm c), r c)
def mostT (gm r : Nat → Nat) (k : Nat) : Nat := leastL (rowG gm r k) 0 0
def gB (gm : Nat → Nat) (k c t : Nat) : Bool := (gm c).testBit t && decide (k ≤ t)
theorem rowG_length (gm r : Nat → Nat) (k : Nat) : (rowG gm r k).length = 16 := by simp [rowG]
theorem rowG_at {gm r : Nat → Nat} {k c : Nat} (hc : c < 16) : (rowG gm r k)[c]?.getD (0, 0) = (fromN k (gm c), r c) := by
  unfold rowG
  rw [List.getElem?_map, List.getElem?_range hc]
  rfl
theorem cutN_congr {F N : Nat} {g g' : Nat → Nat → Bool} {r r' : Nat → Nat} (hg : ∀ c, c < N → ∀ t, t < F → g c t = g' c t) (hr : ∀ c, c < N → r c = r' c) (S : Nat → Bool) : cutN F N g r S = cutN F N g' r' S := by
  unfold cutN
  have h1 : cnF (uniB N g S) F = cnF (uniB N g' S) F := cnF_congr F fun t ht => by
    rw [Bool.eq_iff_iff, uniB_iff, uniB_iff]
    constructor
    · rintro ⟨c, h1, h2, h3⟩; exact ⟨c, h1, h2, by rw [← hg c h1 t ht]; exact h3⟩
    · rintro ⟨c, h1, h2, h3⟩; exact ⟨c, h1, h2, by rw [hg c h1 t ht]; exact h3⟩
  have h2 : sumTo (fun c => if S c = true then 0 else r c) N = sumTo (fun c => if S c = true then 0 else r' c) N := smF_congr N fun c hc => by
    show (if S c = true then 0 else r c) = if S c = true then 0 else r' c
    rw [hr c hc]
  rw [h1, h2]
theorem most_cut (gm r : Nat → Nat) (k : Nat) (S : Nat → Bool) : cutI (rowG gm r k) 0 0 S = cutN 64 16 (gB gm k) r S := by
  have h1 : cutI (rowG gm r k) 0 0 S = cutN 64 16 (gL (rowG gm r k)) (rL (rowG gm r k)) S := by
    unfold cutI cutN
    rw [rowG_length, Nat.zero_add]
    have : cnF (fun t => (0 : Nat).testBit t || uniB 16 (gL (rowG gm r k)) S t) 64 = cnF (uniB 16 (gL (rowG gm r k)) S) 64 := cnF_congr 64 fun t _ => by rw [Nat.zero_testBit, Bool.false_or]
    rw [this]
  rw [h1]
  refine cutN_congr (fun c hc t ht => ?_) (fun c hc => ?_) S
  · unfold gL gB
    rw [rowG_at hc]
    exact fromN_bit ht
  · unfold rL
    rw [rowG_at hc]
theorem most_is (gm r : Nat → Nat) (k : Nat) : IsMost 64 16 (gB gm k) r (mostT gm r k) := by
  refine ⟨fun S => ?_, ?_⟩
  · rw [← most_cut]
    exact least_low _ 0 0 S
  · obtain ⟨S, hS⟩ := least_is (rowG gm r k) 0 0
    exact ⟨S, by rw [← most_cut]; exact hS⟩
/-- None behind the last gap. -/
theorem most_none {gm r : Nat → Nat} {k : Nat} (h : ∀ c, c < 16 → ∀ t, t < 64 → k ≤ t → (gm c).testBit t = false) : mostT gm r k = 0 := by
  have h1 := (most_is gm r k).low fun _ => true
  have h2 : cutN 64 16 (gB gm k) r (fun _ => true) = 0 := by
    unfold cutN
    have k1 : cnF (uniB 16 (gB gm k) fun _ => true) 64 = 0 := cnF_none 64 fun t ht => by
      rw [← Bool.not_eq_true, uniB_iff]
      rintro ⟨c, hc, _, hg⟩
      unfold gB at hg
      rw [Bool.and_eq_true, decide_eq_true_iff] at hg
      rw [h c hc t ht hg.2] at hg
      exact absurd hg.1 (by decide)
    have k2 : sumTo (fun c => if (fun _ : Nat => true) c = true then 0 else r c) 16 = 0 := rfl
    rw [k1, k2]
  omega
/-- One tick now, or all later. -/
theorem most_next {gm r : Nat → Nat} {k lack : Nat} (hk : k < 64) (h0 : 0 < lack) (h : lack ≤ mostT gm r k) :
    lack ≤ mostT gm r (k + 1) ∨ ∃ c, c < 16 ∧ (gm c).testBit k = true ∧ 0 < r c ∧ lack - 1 ≤ mostT gm (lessR r c) (k + 1) := by
  obtain ⟨j, rfl⟩ : ∃ j, lack = j + 1 := ⟨lack - 1, by omega⟩
  have hg : ∀ c, c < 16 → ∀ t, t < 64 → lessG (gB gm k) k c t = gB gm (k + 1) c t := fun c _ t _ => by
    unfold lessG gB
    rw [Bool.and_assoc]
    congr 1
    rw [Bool.eq_iff_iff, Bool.and_eq_true, decide_eq_true_iff, decide_eq_true_iff, decide_eq_true_iff]
    omega
  rcases most_step (N := 16) (g := gB gm k) (r := r) (k := j) hk (fun S => Nat.le_trans h ((most_is gm r k).low S)) with ha | ⟨c, hc, hb, hr, ha⟩
  · left
    obtain ⟨S, hS⟩ := (most_is gm r (k + 1)).is
    rw [← hS, ← cutN_congr hg (fun _ _ => rfl) S]
    exact ha S
  · right
    refine ⟨c, hc, ?_, hr, ?_⟩
    · unfold gB at hb
      rw [Bool.and_eq_true] at hb
      exact hb.1
    · obtain ⟨S, hS⟩ := (most_is gm (lessR r c) (k + 1)).is
      rw [← hS, ← cutN_congr hg (fun _ _ => rfl) S]
      exact ha S

/-! ### A want woven -/
def weaveC (gm r : Nat → Nat) (t lack : Nat) : Option Nat := (List.range 16).find? fun c => decide (r c ≠ 0) && (gm c).testBit t && decide (lack - 1 ≤ mostT gm (lessR r c) (t + 1))
structure WSt where
  r : Nat → Nat
  gv : Nat → Nat
  lack : Nat
def wvS (gm : Nat → Nat) (st : WSt) (t : Nat) : WSt := if st.lack = 0 then st else match weaveC gm st.r t st.lack with
  | none => st
  | some c => ⟨lessR st.r c, fun d => if d = c then withN (st.gv d) t else st.gv d, st.lack - 1⟩
def wvT (gm r : Nat → Nat) (s : Nat) : Nat → WSt
  | 0 => ⟨r, fun _ => 0, s⟩
  | t + 1 => wvS gm (wvT gm r s t) t
theorem weaveC_some {gm r : Nat → Nat} {t lack c : Nat} (h : weaveC gm r t lack = some c) : c < 16 ∧ 0 < r c ∧ (gm c).testBit t = true ∧ lack - 1 ≤ mostT gm (lessR r c) (t + 1) := by
  have h1 := List.find?_some h
  have h2 := List.mem_of_find?_eq_some h
  rw [Bool.and_eq_true, Bool.and_eq_true, decide_eq_true_iff, decide_eq_true_iff] at h1
  exact ⟨List.mem_range.1 h2, by omega, h1.1.2, h1.2⟩
theorem weaveC_none {gm r : Nat → Nat} {t lack : Nat} (h : weaveC gm r t lack = none) (c : Nat) (hc : c < 16) : ¬ (0 < r c ∧ (gm c).testBit t = true ∧ lack - 1 ≤ mostT gm (lessR r c) (t + 1)) := by
  unfold weaveC at h
  rw [List.find?_eq_none] at h
  have := h c (List.mem_range.2 hc)
  rintro ⟨h1, h2, h3⟩
  apply this
  rw [h2, decide_eq_true h3, decide_eq_true (show r c ≠ 0 by omega)]
  rfl
/-- What holds behind some ticks. -/
structure WInv (gm r : Nat → Nat) (s t : Nat) (st : WSt) : Prop where
  need : st.lack ≤ mostT gm st.r t
  sub : ∀ c, ∀ j, (st.gv c).testBit j = true → c < 16 ∧ (gm c).testBit j = true ∧ j < t
  one : ∀ c d j, (st.gv c).testBit j = true → (st.gv d).testBit j = true → c = d
  room : ∀ c, cnt (st.gv c) + st.r c = r c
  sum : sumTo (fun c => cnt (st.gv c)) 16 + st.lack = s
theorem wv_inv {gm r : Nat → Nat} {s : Nat} (h : s ≤ mostT gm r 0) : ∀ t : Nat, t ≤ 64 → WInv gm r s t (wvT gm r s t)
  | 0, _ => by
    refine ⟨h, fun c j hj => ?_, fun c d j hj => ?_, fun c => ?_, ?_⟩
    · have : (0 : Nat).testBit j = true := hj
      rw [Nat.zero_testBit] at this
      cases this
    · have : (0 : Nat).testBit j = true := hj
      rw [Nat.zero_testBit] at this
      cases this
    · show cnt 0 + r c = r c
      rw [cnt_zero, Nat.zero_add]
    · show sumTo (fun c => cnt 0) 16 + s = s
      rw [cnt_zero]
      show sumTo (fun _ => 0) 16 + s = s
      exact Nat.zero_add s
  | t + 1, ht => by
    have ih := wv_inv h t (by omega)
    show WInv gm r s (t + 1) (wvS gm (wvT gm r s t) t)
    generalize wvT gm r s t = st at ih
    unfold wvS
    have hlate : ∀ {st' : WSt}, st' = st → st.lack ≤ mostT gm st.r (t + 1) → WInv gm r s (t + 1) st' := fun e hn => by
      subst e
      exact ⟨hn, fun c j hj => by obtain ⟨k1, k2, k3⟩ := ih.sub c j hj; exact ⟨k1, k2, by omega⟩, ih.one, ih.room, ih.sum⟩
    by_cases h0 : st.lack = 0
    · rw [if_pos h0]
      exact hlate rfl (by omega)
    · rw [if_neg h0]
      cases hc : weaveC gm st.r t st.lack with
      | none =>
        refine hlate rfl ?_
        rcases most_next (by omega) (by omega) ih.need with hn | ⟨c, h1, h2, h3, h4⟩
        · exact hn
        · exact absurd ⟨h3, h2, h4⟩ (weaveC_none hc c h1)
      | some c =>
        obtain ⟨hc16, hr, hg, hm⟩ := weaveC_some hc
        have hno : ∀ d, (st.gv d).testBit t = false := fun d => by
          rw [← Bool.not_eq_true]
          intro hb
          have := (ih.sub d t hb).2.2
          omega
        have hbit : ∀ d j, (if d = c then withN (st.gv d) t else st.gv d).testBit j = ((st.gv d).testBit j || decide (d = c ∧ t = j)) := fun d j => by
          by_cases hd : d = c
          · rw [if_pos hd, withN_bit]
            simp [hd]
          · rw [if_neg hd]
            simp [hd]
        have hcw : cnt (withN (st.gv c) t) = cnt (st.gv c) + 1 := cnt_with (hno c) (by omega)
        refine ⟨hm, fun d j hj => ?_, fun d e j hd he => ?_, fun d => ?_, ?_⟩
        · have hj' : (if d = c then withN (st.gv d) t else st.gv d).testBit j = true := hj
          rw [hbit, Bool.or_eq_true, decide_eq_true_iff] at hj'
          rcases hj' with hj' | ⟨rfl, rfl⟩
          · obtain ⟨k1, k2, k3⟩ := ih.sub d j hj'
            exact ⟨k1, k2, by omega⟩
          · exact ⟨hc16, hg, by omega⟩
        · have hd' : (if d = c then withN (st.gv d) t else st.gv d).testBit j = true := hd
          have he' : (if e = c then withN (st.gv e) t else st.gv e).testBit j = true := he
          rw [hbit, Bool.or_eq_true, decide_eq_true_iff] at hd' he'
          rcases hd' with hd' | ⟨d1, d2⟩ <;> rcases he' with he' | ⟨e1, e2⟩
          · exact ih.one d e j hd' he'
          · rw [← e2, hno d] at hd'; cases hd'
          · rw [← d2, hno e] at he'; cases he'
          · rw [d1, e1]
        · show cnt (if d = c then withN (st.gv d) t else st.gv d) + lessR st.r c d = r d
          have k1 := ih.room d
          unfold lessR
          by_cases hd : d = c
          · subst hd
            rw [if_pos rfl, if_pos rfl, hcw]
            omega
          · rw [if_neg hd, if_neg hd]
            exact k1
        · show sumTo (fun d => cnt (if d = c then withN (st.gv d) t else st.gv d)) 16 + (st.lack - 1) = s
          have k1 := ih.sum
          have k2 := smF_one (f := fun d => cnt (if d = c then withN (st.gv d) t else st.gv d)) (g := fun d => cnt (st.gv d)) (k := c) (d := 1) 16 (fun d _ hd => by
            show cnt (if d = c then withN (st.gv d) t else st.gv d) = _
            rw [if_neg hd]) (by
            show cnt (if c = c then withN (st.gv c) t else st.gv c) = _
            rw [if_pos rfl, hcw]) hc16
          omega
/-- All are woven. -/
theorem wv_all {gm r : Nat → Nat} {s F : Nat} (h : s ≤ mostT gm r 0) (hF : F ≤ 64) (hg : ∀ c, c < 16 → ∀ t, t < 64 → F ≤ t → (gm c).testBit t = false) : WInv gm r s F (wvT gm r s F) ∧ (wvT gm r s F).lack = 0 := by
  have hI := wv_inv h F hF
  refine ⟨hI, ?_⟩
  have h1 := hI.need
  have h2 : mostT gm (wvT gm r s F).r F = 0 := most_none hg
  omega
end Go.Proofs.Ytkgkanmccaodfaa

/-
  All is counted: what is free and what is shared out are the frames of all cores; cores of a right plan.
  Conditions: the plan is right.
-/
set_option linter.unusedVariables false
namespace Go.Proofs.Ytkgkanmccaodfaa
open Go.RowKit

/-- A sum over the first k cores that are there. -/
def overC (m : Nat) (g : Nat → Int) : Nat → Int
  | 0 => 0
  | k + 1 => overC m g k + if m.testBit k = true then g k else 0
theorem overC_add (m : Nat) (g h : Nat → Int) : ∀ k : Nat, overC m (fun c => g c + h c) k = overC m g k + overC m h k
  | 0 => rfl
  | k + 1 => by
    rw [overC, overC, overC, overC_add m g h k]
    cases m.testBit k <;> simp <;> omega
theorem overC_congr {m : Nat} {g h : Nat → Int} : ∀ {k : Nat}, (∀ c, c < k → m.testBit c = true → g c = h c) → overC m g k = overC m h k
  | 0, _ => rfl
  | k + 1, e => by
    rw [overC, overC, overC_congr fun c hc hb => e c (by omega) hb]
    by_cases hb : m.testBit k = true
    · rw [if_pos hb, if_pos hb, e k (by omega) hb]
    · rw [if_neg hb, if_neg hb]
theorem overC_zero (m : Nat) : ∀ k : Nat, overC m (fun _ => 0) k = 0
  | 0 => rfl
  | k + 1 => by rw [overC, overC_zero m k]; simp
theorem overC_const (m : Nat) (f : Int) : ∀ k : Nat, overC m (fun _ => f) k = f * (cntT m k : Int)
  | 0 => by
    show (0 : Int) = f * ((0 : Nat) : Int)
    simp
  | k + 1 => by
    rw [overC, overC_const m f k, cntT_succ]
    cases m.testBit k
    · simp
    · simp [Int.mul_add]
theorem overC_one {m : Nat} {c0 : Nat} {s : Int} (hb : m.testBit c0 = true) : ∀ {k : Nat}, c0 < k → overC m (fun c => if (c0 : Int) = (c : Int) then s else 0) k = s
  | 0, h => absurd h (Nat.not_lt_zero _)
  | k + 1, h => by
    rw [overC]
    by_cases e : k = c0
    · subst e
      rw [if_pos hb, if_pos rfl, overC_congr (h := fun _ => 0) fun c hc _ => if_neg (by omega), overC_zero]
      omega
    · rw [if_neg (c := (c0 : Int) = (k : Int)) (by omega), overC_one hb (by omega)]
      simp

/-- A sum's first k, of ints that are counts. -/
theorem sumTo_cast_add (f g : Nat → Nat) (n : Nat) : ((sumTo (fun i => f i + g i) n : Nat) : Int) = (sumTo f n : Int) + (sumTo g n : Int) := by rw [sumTo_add]; omega
theorem nOn_cons (y : Pc) (q : List Pc) (c : Int) (t : Nat) : nOn (y :: q) c t = (onB c t y).toNat + nOn q c t := by
  rw [show y :: q = [y] ++ q from rfl, nOn_append]
  rw [show [y] = [] ++ [y] from rfl, nOn_snoc, nOn_nil, Nat.zero_add]
theorem nAny_cons (y : Pc) (q : List Pc) (t : Nat) : nAny (y :: q) t = (y.t.testBit t).toNat + nAny q t := by
  rw [show y :: q = [y] ++ q from rfl, nAny_append]
  rw [show [y] = [] ++ [y] from rfl, nAny_snoc, show nAny [] t = 0 from rfl, Nat.zero_add]

theorem sum_none (c : Int) : sumTo (nOn [] c) 64 = 0 := sumTo_zero fun _ _ => rfl
theorem over_pieces {m : Nat} : ∀ (q : List Pc), (∀ y ∈ q, hasC m y.c = true) → overC m (fun c => (sumTo (nOn q (c : Int)) 64 : Int)) 16 = (sumTo (nAny q) 64 : Int)
  | [], _ => by
    have e : ∀ c : Int, sumTo (nOn [] c) 64 = 0 := fun c => sumTo_zero fun _ _ => rfl
    have e2 : sumTo (nAny []) 64 = 0 := sumTo_zero fun _ _ => rfl
    rw [overC_congr (h := fun _ => 0) fun c _ _ => by simp [e], overC_zero, e2]
    rfl
  | y :: q, h => by
    have hy := h y (by simp)
    obtain ⟨r0, r1⟩ := hasC_range hy
    obtain ⟨c0, hc0⟩ := Int.eq_ofNat_of_zero_le r0
    have hc16 : c0 < 16 := by omega
    have hb : m.testBit c0 = true := by rw [hc0, hasC_nat hc16] at hy; exact hy
    have e1 : ∀ c : Nat, (sumTo (nOn (y :: q) (c : Int)) 64 : Int) = (if (c0 : Int) = (c : Int) then (sumTo (fun t => (y.t.testBit t).toNat) 64 : Int) else 0) + (sumTo (nOn q (c : Int)) 64 : Int) := fun c => by
      rw [sumTo_congr (g := fun t => (onB (c : Int) t y).toNat + nOn q (c : Int) t) fun t _ => nOn_cons y q _ t, sumTo_cast_add]
      congr 1
      by_cases e : (c0 : Int) = (c : Int)
      · rw [if_pos e]
        congr 1
        refine sumTo_congr fun t _ => ?_
        unfold onB
        rw [hc0, decide_eq_true e, Bool.true_and]
      · rw [if_neg e, sumTo_zero fun t _ => by
          unfold onB
          rw [hc0, decide_eq_false e, Bool.false_and]
          rfl]
        rfl
    rw [overC_congr fun c _ _ => e1 c, overC_add, overC_one hb hc16, over_pieces q fun z hz => h z (by simp [hz]),
      sumTo_congr (f := nAny (y :: q)) (g := fun t => (y.t.testBit t).toNat + nAny q t) fun t _ => nAny_cons y q t, sumTo_cast_add]
theorem wholesT_cons (x : Pl) (l : List Pl) (c : Int) : sumS (wholesT (x :: l) c) = (if wholeB c x = true then x.s else 0) + sumS (wholesT l c) := by
  unfold wholesT
  rw [List.filter_cons]
  by_cases h : wholeB c x = true
  · rw [if_pos h, if_pos h, List.map_cons, sumS]
  · rw [if_neg h, if_neg h]
    omega
/-- All that lies on a core. -/
def layN (l : List Pl) (c : Int) : Int := (sumTo (nOn (pcsOf l) c) 64 : Int) + sumS (wholesT l c)
theorem over_lay {f : Int} {m : Nat} : ∀ (l : List Pl), (∀ x ∈ l, PlaceOk f m x) → overC m (fun c => layN l (c : Int)) 16 = sumS (wantsT l)
  | [], _ => by
    rw [overC_congr (h := fun _ => 0) fun c _ _ => by
      show ((sumTo (nOn [] (c : Int)) 64 : Nat) : Int) + 0 = 0
      rw [sum_none]
      rfl, overC_zero]
    rfl
  | x :: l, h => by
    have hx := h x (by simp)
    have e : ∀ c : Nat, layN (x :: l) (c : Int) = ((sumTo (nOn x.ps (c : Int)) 64 : Int) + (if wholeB (c : Int) x = true then x.s else 0)) + layN l (c : Int) := fun c => by
      unfold layN
      rw [pcsOf_cons, wholesT_cons, sumTo_congr (f := nOn (x.ps ++ pcsOf l) (c : Int)) (g := fun t => nOn x.ps (c : Int) t + nOn (pcsOf l) (c : Int) t) fun t _ => nOn_append _ _ _ _, sumTo_cast_add]
      omega
    have ew : wantsT (x :: l) = (x.u, x.s) :: wantsT l := rfl
    rw [overC_congr fun c _ _ => e c, overC_add, over_lay l fun z hz => h z (by simp [hz]), ew, sumS]
    congr 1
    rw [overC_add]
    by_cases hp : x.ps = []
    · have hh := hx.whole hp
      obtain ⟨r0, r1⟩ := hasC_range hh
      obtain ⟨c0, hc0⟩ := Int.eq_ofNat_of_zero_le r0
      have hc16 : c0 < 16 := by omega
      have hb : m.testBit c0 = true := by rw [hc0, hasC_nat hc16] at hh; exact hh
      rw [overC_congr (h := fun _ => 0) (g := fun c => (sumTo (nOn x.ps (c : Int)) 64 : Int)) fun c _ _ => by
        show (sumTo (nOn x.ps (c : Int)) 64 : Int) = 0
        rw [hp, sum_none]
        rfl, overC_zero, Int.zero_add,
        overC_congr (h := fun c => if (c0 : Int) = (c : Int) then x.s else 0) fun c _ _ => ?_, overC_one hb hc16]
      have e1 : wholeB (c : Int) x = decide ((c0 : Int) = (c : Int)) := by
        unfold wholeB
        rw [hp, hc0]
        simp
      rw [e1]
      by_cases h1 : (c0 : Int) = (c : Int)
      · rw [decide_eq_true h1, if_pos rfl, if_pos h1]
      · rw [decide_eq_false h1, if_neg (by decide), if_neg h1]
    · have hs := hx.split hp
      rw [over_pieces x.ps (rise_has hs.rise), overC_congr (h := fun _ => 0) fun c _ _ => ?_, overC_zero, Int.add_zero]
      · exact hs.all
      · have : wholeB (c : Int) x = false := by
          unfold wholeB
          rw [decide_eq_false (fun h0 => hp (List.eq_nil_of_length_eq_zero h0)), Bool.false_and]
        rw [this]
        rfl
theorem free_over (f : Int) (m : Nat) (l : List Pl) : ∀ k : Nat, k ≤ 16 → freeT f m l k = overC m (fun c => f - loadN l (c : Int)) k
  | 0, _ => rfl
  | k + 1, h => by
    rw [freeT, overC, free_over f m l k (by omega)]
    congr 1
    unfold roomN
    rw [hasC_nat (by omega)]
/-- What is free, and what is shared out, are the frames of all cores. -/
theorem Right.all {f : Int} {m : Nat} {l : List Pl} (h : Right f m l) : freeT f m l 16 + sumS (wantsT l) = f * (coresN m : Int) := by
  have h1 : overC m (fun c => loadN l (c : Int)) 16 = sumS (wantsT l) := by
    rw [← over_lay l h.place]
    refine overC_congr fun c hc _ => ?_
    show loadN l (c : Int) = layN l (c : Int)
    unfold loadN layN
    rw [cnt_win (h.apart c hc)]
  have h2 := overC_add m (fun c => f - loadN l (c : Int)) (fun c => loadN l (c : Int)) 16
  rw [h1, ← free_over f m l 16 (Nat.le_refl _), overC_congr (h := fun _ => f) fun c _ _ => by omega, overC_const] at h2
  unfold coresN
  omega
theorem ticks_top {m : Nat} (h : m < 65536) : ticksI m 64 = ticksI m 16 := by
  have key : ∀ d : Nat, ticksI m (16 + d) = ticksI m 16 := by
    intro d
    induction d with
    | zero => rfl
    | succ d ih => rw [show 16 + (d + 1) = (16 + d) + 1 by omega, ticksI_no (bit16 h (by omega)), ih]
  exact key 48
end Go.Proofs.Ytkgkanmccaodfaa

/-
  A unit's place: slices.IndexFunc, slices.Clone of pieces, clone, Find of both.
  Conditions: the slice reads as places.
-/
set_option linter.unusedVariables false
namespace Go.Proofs.Ytkgkanmccaodfaa
open Go.RowKit

def findU (l : List Pl) (u : Int) : Option Pl := l.find? fun x => decide (x.u = u)
def zeroPl : Pl := ⟨0, 0, 0, []⟩
theorem findU_miss {l : List Pl} {k : Nat} {x : Pl} {u : Int} (h : findU (l.take k) u = none) (hx : l[k]? = some x) (hu : x.u ≠ u) : findU (l.take (k + 1)) u = none := by
  unfold findU at h ⊢
  rw [List.take_add_one, hx, Option.toList_some, List.find?_append, h]
  simp [hu]
theorem findU_hit {l : List Pl} {k : Nat} {x : Pl} {u : Int} (h : findU (l.take k) u = none) (hx : l[k]? = some x) (hu : x.u = u) : findU l u = some x := by
  unfold findU at h ⊢
  have e : l = l.take k ++ x :: l.drop (k + 1) := by
    obtain ⟨hk, hx'⟩ := List.getElem?_eq_some_iff.1 hx
    rw [← hx', ← List.drop_eq_getElem_cons hk, List.take_append_drop]
  rw [e, List.find?_append, h]
  simp [hu]
/-- Where a unit's place is. -/
def RetIdx (l : List Pl) (u : Int) (w : World) (e : Ending) (w' : World) : Prop :=
  ∃ r : Int, e = .returned (.int .i64 r) ∧ ((r = -1 ∧ findU l u = none) ∨ ∃ (k : Nat) (x : Pl), r = k ∧ l[k]? = some x ∧ findU l u = some x) ∧ Below w.heap.size w w'

theorem findPred_any (u : Int) (B : Nat) (v : Value) (x : Pl) (W : World) (hB : B < W.heap.size) (hc : W.cell? ⟨B, 0, none⟩ = some (.int .i64 u)) :
    Calls Try.prog 82 #[plA v x, .pointer (some ⟨B, 0, none⟩)] W (RetB (.bool (decide (x.u = u))) W) := by
  obtain ⟨w1, P, hw1, hP, hPl, hb1, hbox⟩ := box_any W #[.int .i64 x.u, .int .i64 x.s, .int .i64 x.c, v] 38
  have HB1 := Lib.hid hb1
  obtain ⟨r0, r1, r2, r3⟩ := four_heads hbox
  have hc1 : w1.cell? ⟨B, 0, none⟩ = some (.int .i64 u) := (hb1.cell (p := ⟨B, 0, none⟩) hB).trans hc
  have hd : (x.u == u) = decide (x.u = u) := by by_cases h : x.u = u <;> simp [h]
  generalize decide (x.u = u) = r at *
  clear hb1 hbox hc
  unfold plA
  go_enter Try.func82, Try.ntmps82
  go_wp2
  all_goals go_ret
  all_goals exact ⟨by simp_all, HB1.out⟩

set_option maxRecDepth 100000 in
set_option maxHeartbeats 2000000 in
theorem indexPl_any (v : Value) (l : List Pl) (u : Int) (C : Nat) (w : World) (h : PlsAt w v l) (hC : C < w.heap.size) (hc : w.cell? ⟨C, 0, none⟩ = some (.int .i64 u)) :
    Calls Try.prog 81 #[v, .func (.func 82) #[] #[.pointer (some ⟨C, 0, none⟩)]] w (RetIdx l u w) := by
  have eg : ∀ args w, (callFunc 82 args).run Try.prog w = .ok (.enter 82 args) w := enters_of Try.func82 (by kernel_rfl) rfl
  have HL := Lib.hid h
  have HC := Lib.hid hc
  have HPR := Lib.hid (fun v x W hB hc => findPred_any u C v x W hB hc)
  unfold plA at HPR
  obtain ⟨A, c, rfl, hc1, hc2⟩ := h.form
  obtain ⟨n, hn⟩ : ∃ n, l.length = n := ⟨_, rfl⟩
  rw [hn] at HL hc1 ⊢
  have HN := Lib.hid hn
  have hbn : n ≤ 9223372036854775807 := by omega
  clear h hn hc
  go_enter Try.func81, Try.ntmps81
  go_wp2_with fail
  go_loopg [5, 8] n (fun gg _ s8 wr => ∃ k : Nat, k ≤ n ∧ gg = n - k ∧ s8 = .int .i64 k ∧ Hid (findU (l.take k) u = none) ∧ Below w.heap.size w wr)
  case atStart => exact ⟨0, Nat.zero_le _, by omega, rfl, rfl, Below.refl _ w⟩
  case round =>
    obtain ⟨k, hk, hg, rfl, HF, hbw⟩ := hrel
    have HG := Lib.hid hg
    have HB := Lib.hid hbw
    clear hg hbw
    by_cases hlt : k < n
    · have hltz : (k : Int) < (n : Int) := by omega
      have hk0 : (0 : Int) ≤ (k : Int) := by omega
      obtain ⟨x, hx⟩ := exP_at (xs := l) (k := k) (by rw [HN.out]; exact hlt)
      obtain ⟨b, off, B, d, hA, hbl, _, ⟨c0, c1, c2, c3⟩, _⟩ := (HL.out.keep HB.out).at_ hx
      subst hA
      simp only at c0 c1 c2 c3
      have HCL := Lib.hid (HPR.out (.slice B x.ps.length d) x wr (Nat.lt_of_lt_of_le hC HB.out.size) ((HB.out.cell (p := ⟨C, 0, none⟩) hC).trans HC.out))
      have HX := Lib.hid hx
      clear hx
      by_cases hu : x.u = u
      · rw [decide_eq_true hu] at HCL
        have HE := Lib.hid (findU_hit HF HX.out hu)
        clear hu
        go_wp2_with (go_at_fn 82; refine HCL.out.mono ?_; rintro e w' ⟨rfl, hb'⟩)
        go_ret
        exact ⟨k, rfl, .inr ⟨k, x, rfl, HX.out, HE.out⟩, HB.out.trans (hb'.mono HB.out.size)⟩
      · rw [decide_eq_false hu] at HCL
        have HE := Lib.hid (findU_miss HF HX.out hu)
        clear hu
        go_wp2_with (go_at_fn 82; refine HCL.out.mono ?_; rintro e w' ⟨rfl, hb'⟩)
        have HB2 := Lib.hid (HB.out.trans (hb'.mono HB.out.size))
        clear hb'
        go_roundg (n - (k + 1))
        case measure => have := HG.out; omega
        case rel => exact ⟨k + 1, by omega, rfl, by go_num, HE.out, HB2.out⟩
    · have hltz : ¬ (k : Int) < (n : Int) := by omega
      have HE : Hid (findU l u = none) := by
        have h : findU (l.take k) u = none := HF
        rwa [List.take_of_length_le (by rw [HN.out]; omega)] at h
      go_wp2
      go_ret
      exact ⟨-1, rfl, .inl ⟨rfl, HE⟩, HB.out⟩

/-! ### Pieces of a place's own -/
def pcsCells (ps : List Pc) : List Value := ps.flatMap pcCells
theorem pcsCells_cons (y : Pc) (ps : List Pc) : pcsCells (y :: ps) = .int .i64 y.c :: .int .u64 y.t :: pcsCells ps := by simp [pcsCells, pcCells]
theorem pcsCells_length : ∀ (ps : List Pc), (pcsCells ps).length = ps.length * 2
  | [] => rfl
  | y :: ps => by rw [pcsCells_cons]; simp [pcsCells_length ps]; omega
theorem pcsCells_get : ∀ (ps : List Pc) (j : Nat) (y : Pc), ps[j]? = some y → (pcsCells ps)[j * 2]? = some (.int .i64 y.c) ∧ (pcsCells ps)[j * 2 + 1]? = some (.int .u64 y.t)
  | [], j, y, h => by simp at h
  | z :: ps, 0, y, h => by
    simp at h
    subst h
    exact ⟨rfl, rfl⟩
  | z :: ps, j + 1, y, h => by
    have ih := pcsCells_get ps j y (by simpa using h)
    rw [pcsCells_cons, show (j + 1) * 2 = j * 2 + 1 + 1 by omega]
    simpa using ih
theorem pcsCells_one (ps : List Pc) : ∀ u ∈ pcsCells ps, u.oneCell' = true := by
  intro u hu
  obtain ⟨y, _, hy⟩ := List.mem_flatMap.1 hu
  simp [pcCells] at hy
  rcases hy with rfl | rfl <;> rfl
theorem pcsCells_of {W : World} {b off : Nat} : ∀ (ps : List Pc), (∀ (j : Nat) (y : Pc), ps[j]? = some y → PcAt W b (off + j * 2) y) → ∀ j u, (pcsCells ps)[j]? = some u → W.cell? ⟨b, off + j, none⟩ = some u := by
  intro ps hc j u h
  have hj : j < ps.length * 2 := by rw [← pcsCells_length]; exact (List.getElem?_eq_some_iff.1 h).1
  obtain ⟨i, hi⟩ : ∃ i, j = i * 2 ∨ j = i * 2 + 1 := ⟨j / 2, by omega⟩
  obtain ⟨y, hy⟩ := exP_at (xs := ps) (k := i) (by omega)
  obtain ⟨g1, g2⟩ := pcsCells_get ps i y hy
  obtain ⟨k1, k2⟩ := hc i y hy
  rcases hi with rfl | rfl
  · rw [g1] at h
    rw [k1]; exact h
  · rw [g2] at h
    rw [← Nat.add_assoc, k2]; exact h
/-- A row of a call's own reads as pieces. -/
theorem pcs_of_own {W : World} {base : Nat} {v : Value} {ps : List Pc} (h : W.ownsRow base 50 2 v ps.length (pcsCells ps)) : PcsIn (fun b => base ≤ b) W v ps := by
  obtain ⟨h1, h2⟩ := h
  rcases h2 with ⟨rfl, h0⟩ | ⟨g, cap, cur, rfl, hg, hh, hn, hc, hs, ht⟩
  · have : ps = [] := List.eq_nil_of_length_eq_zero h0
    subst this
    exact PcsIn.nil _ W
  · refine ⟨_, cap, rfl, hn, by unfold maxLen at hc; omega, fun _ => ⟨g, 0, rfl, heap_lt hh, hg, fun j y hy => ?_⟩⟩
    have hj : j < ps.length := (List.getElem?_eq_some_iff.1 hy).1
    obtain ⟨g1, g2⟩ := pcsCells_get ps j y hy
    have key : ∀ (i : Nat) (u : Value), i < ps.length * 2 → (pcsCells ps)[i]? = some u → W.cell? ⟨g, 0 + i, none⟩ = some u := by
      intro i u hi hu
      rw [Nat.zero_add, cell_of_row W g i _ _ (0, 0) hh, ← hu, ← ht, List.getElem?_take, if_pos hi]
      simp
    exact ⟨key _ _ (by omega) g1, by rw [Nat.add_assoc]; exact key _ _ (by omega) g2⟩
/-- What a call answers: these pieces, in memory of its own. -/
def RetPcs (ps : List Pc) (w : World) (e : Ending) (w' : World) : Prop := ∃ v, e = .returned v ∧ PcsIn (fun b => w.heap.size ≤ b) w' v ps ∧ Below w.heap.size w w'

set_option maxRecDepth 100000 in
set_option maxHeartbeats 2000000 in
theorem clonePcs_any (v : Value) (ps : List Pc) (w : World) (h : PcsAt w v ps) (hl : ps.length ≤ 1000) : Calls Try.prog 93 #[v] w (RetPcs ps w) := by
  obtain ⟨A, c, rfl, hc1, hc2, hat⟩ := h
  have q22 : ∀ (w : World) (a : Option Addr) (n c n' c' : Nat), (binOp .eql 36 (.slice a n c) (.slice none n' c')).run Try.prog w = .ok (.bool a.isNone) w := fun w a n c n' c' => Lib.run_eql_slice_nil w _ _ a n c n' c' Try.underlying36
  rcases A with _ | a
  · have : ps = [] := by
      rcases Nat.eq_zero_or_pos ps.length with h | h
      · exact List.eq_nil_of_length_eq_zero h
      · obtain ⟨b, off, e, _⟩ := hat h; cases e
    subst this
    clear hat
    go_enter Try.func93, Try.ntmps93
    go_wp2
    go_ret
    exact ⟨_, rfl, PcsIn.nil _ _, Below.refl _ _⟩
  · have hb : Below w.heap.size w (w.alloc (.cells #[] 50)) := (Below.refl _ w).alloc (Nat.le_refl _) _
    have hlit := World.ownsRow_lit (base := w.heap.size) (e := 50) (size := 2) w #[] 0 (Nat.le_refl _) (by unfold maxLen; omega) rfl
    obtain ⟨i, hi, hz0, hz1, hz2⟩ := info_parts Try.infoPc
    have HLIT := Lib.hid hlit
    have HB := Lib.hid hb
    have hcell : Hid (∀ j u, (pcsCells ps)[j]? = some u → (w.alloc (.cells #[] 50)).cell? (a.add j) = some u) := Lib.hid (fun j u hj => by
      have hj' : j < ps.length * 2 := by rw [← pcsCells_length]; exact (List.getElem?_eq_some_iff.1 hj).1
      obtain ⟨b, off, e, hlt, _, hc⟩ := hat (by omega)
      cases e
      rw [Addr.add_lit]
      exact (hb.cell (p := ⟨b, off + j, none⟩) hlt).trans (pcsCells_of ps hc j u hj))
    generalize hn : ps.length = n at *
    have HN := Lib.hid hn
    have HI := Lib.hid hi
    have HLEN := Lib.hid (show (pcsCells ps).length = n * 2 by rw [pcsCells_length]; omega)
    have HONE := Lib.hid (pcsCells_one ps)
    have HMX := Lib.hid (show 0 + n ≤ maxLen by unfold maxLen; omega)
    have HBY := Lib.hid (show (0 + n) * 16 ≤ 140737488355328 by omega)
    have HBS := Lib.hid (show w.heap.size ≤ (w.alloc (.cells #[] 50)).heap.size by simp)
    clear hat hlit hb hn
    go_enter Try.func93, Try.ntmps93
    go_wp2_with (at_builtin; refine wpList_append_own _ rfl _ _ 36 rfl w.heap.size 50 i (.agg #[.int .i64 0, .int .u64 0]) 2 16 Try.underlying36 HI.out hz0 hz1 hz2 rfl (by decide) _ 0 [] rfl HLIT.out a n _ (pcsCells ps) rfl HLEN.out hcell.out HONE.out HMX.out HBY.out HBS.out ?_)
    intro v2 w2 hown2 hg2 _
    have HO2 := Lib.hid hown2
    have HB2 := Lib.hid (HB.out.trans ((Below.refl w.heap.size _).grown hg2 (by simp) (fun k hk => by cases hk; exact Nat.le_refl _)))
    clear hown2 hg2
    go_wp2
    go_ret
    have h := HO2.out
    rw [← HN.out] at h
    exact ⟨_, rfl, pcs_of_own h, HB2.out⟩

/-- What a call answers: this place, its pieces in blocks of F. -/
def RetPl (F : Nat → Prop) (x : Pl) (w : World) (e : Ending) (w' : World) : Prop := ∃ v, e = .returned (plA v x) ∧ PcsIn F w' v x.ps ∧ Below w.heap.size w w'
theorem one4 (a b c : Int) (A : Option Addr) (n d : Nat) : (#[.int .i64 a, .int .i64 b, .int .i64 c, .slice A n d] : Array Value).all (·.oneCell') = true := by simp [Value.oneCell']
theorem below_row16 {B g : Nat} {a w : World} (h : Below B a w) (hg : B ≤ g) (cs : Array Value) : Below B a (w.setRow g cs) := h.trans ⟨rfl, rfl, rfl, by simp, fun k hk => setRow_other _ _ _ _ (by omega)⟩

set_option maxRecDepth 100000 in
set_option maxHeartbeats 2000000 in
theorem clonePl_any (v : Value) (x : Pl) (w : World) (h : PcsAt w v x.ps) (hl : x.ps.length ≤ 1000) :
    Calls Try.prog 83 #[plA v x] w (RetPl (fun b => w.heap.size ≤ b) x w) := by
  obtain ⟨w1, P, hw1, hP, hPl, hb1, hbox⟩ := box_any w #[.int .i64 x.u, .int .i64 x.s, .int .i64 x.c, v] 38
  obtain ⟨w2, N, hw2, hN, hNl, hb2, hnb⟩ := box_any w1 #[.int .i64 0, .int .i64 0, .int .i64 0, .slice none 0 0] 38
  have HB2 := Lib.hid (hb1.trans (hb2.mono hb1.size))
  have HC := Lib.hid (clonePcs_any v x.ps w2 (h.keep HB2.out) hl)
  have HPB := Lib.hid (keep_block hbox hb2)
  have HNB := Lib.hid hnb
  obtain ⟨p0, p1, p2, p3⟩ := four_heads HPB.out
  have HLT := Lib.hid (show w.heap.size ≤ P ∧ P < N ∧ N < w2.heap.size by have := hb1.size; omega)
  clear h hb1 hb2 hbox hnb
  unfold plA
  go_enter Try.func83, Try.ntmps83
  go_wp2_with fail
  refine HC.out.mono ?_
  rintro e w3 ⟨v', rfl, hps, hb3⟩
  have HPS := Lib.hid hps
  have HB3 := Lib.hid (HB2.out.trans (hb3.mono HB2.out.size))
  have HP3 := Lib.hid (keep_block HPB.out hb3)
  have HN3 := Lib.hid (keep_block HNB.out hb3)
  have HLT3 := Lib.hid (show N < w3.heap.size by have := HLT.out; have := hb3.size; omega)
  have HF2 := Lib.hid (show w2.heap.size ≤ w3.heap.size from hb3.size)
  have HP4 : Hid ((w3.setCell ⟨P, 3, none⟩ v').heap[P]? = some (.cells #[.int .i64 x.u, .int .i64 x.s, .int .i64 x.c, v'] 38 (0, 0))) := heap_setCell_mem _ _ _ _ _ _ _ HP3.out
  have HN4 : Hid ((w3.setCell ⟨P, 3, none⟩ v').heap[N]? = some (.cells #[.int .i64 0, .int .i64 0, .int .i64 0, .slice none 0 0] 38 (0, 0))) := (Below.heap_setCell _ _ _ _ (show N ≠ P by have := HLT.out; omega)).trans HN3.out
  obtain ⟨w4, hw4⟩ : ∃ w4, w3.setCell ⟨P, 3, none⟩ v' = w4 := ⟨_, rfl⟩
  have HB4 : Hid (Below w.heap.size w w4) := by rw [← hw4]; exact HB3.out.setCell (p := ⟨P, 3, none⟩) HLT.out.1 _
  have HPS4 : Hid (PcsIn (fun b => w.heap.size ≤ b) (w4.setRow N #[.int .i64 x.u, .int .i64 x.s, .int .i64 x.c, v']) v' x.ps) := by
    have h1 := HLT.out
    refine (HPS.out.keepF (by rw [← hw4]; simp [World.setCell]) fun b hb hF => ?_).mono fun b _ hF => by have := HB2.out.size; omega
    have h2 : b ≠ P ∧ b ≠ N := by omega
    rw [← hw4]
    exact (setRow_other _ _ _ _ h2.2).trans (Below.heap_setCell _ _ _ _ h2.1)
  rw [hw4] at HP4 HN4
  obtain ⟨r0, r1, r2, r3⟩ := four_heads HP4.out
  obtain ⟨s0, s1, s2, s3⟩ := four_heads HP3.out
  obtain ⟨f3⟩ : w3.frozen? ⟨P, 3, none⟩ = false ∧ True := ⟨by have e := HP3.out; simp [World.frozen?, e], trivial⟩
  obtain ⟨A', d', hv'⟩ := HPS.out.form
  subst hv'
  clear hps hb3 p0 p1 p2 p3 hw1 hP hw2
  go_wp2_with (refine wpList_store_row rfl _ _ _ rfl N #[.int .i64 x.u, .int .i64 x.s, .int .i64 x.c, .slice A' x.ps.length d'] rfl rfl 38 _ HN4.out (Try.sizePl _ _ _ _) rfl (one4 _ _ _ _ _ _) ?_)
  refine bodyPost_ret (v := .agg #[.int .i64 x.u, .int .i64 x.s, .int .i64 x.c, .slice A' x.ps.length d']) (results_cell_row rfl _ _ N _ _ _ _ rfl (setRow_heap _ _ _ _ _ _ HN4.out) Try.underlying38 rfl (Try.sizePl _ _ _ _)) rfl ?_
  exact ⟨_, rfl, HPS4.out, below_row16 HB4.out (by have := HLT.out; omega) _⟩
end Go.Proofs.Ytkgkanmccaodfaa

/-
  Rows of places, each with where its pieces lie.
  Conditions: none.
-/
set_option linter.unusedVariables false
namespace Go.Proofs.Ytkgkanmccaodfaa
open Go.RowKit

/-- A place, and where its pieces lie. -/
abbrev Rp := (Option Addr × Nat) × Pl
def rpV (r : Rp) : Value := .slice r.1.1 r.2.ps.length r.1.2
def rpCells (m : Rp) : List Value := [.int .i64 m.2.u, .int .i64 m.2.s, .int .i64 m.2.c, rpV m]
def rowP (l : List Rp) : List Value := l.flatMap rpCells
theorem rowP_cons (m : Rp) (l : List Rp) : rowP (m :: l) = .int .i64 m.2.u :: .int .i64 m.2.s :: .int .i64 m.2.c :: rpV m :: rowP l := by simp [rowP, rpCells]
theorem rowP_append (l k : List Rp) : rowP (l ++ k) = rowP l ++ rowP k := by simp [rowP]
theorem rowP_length : ∀ (l : List Rp), (rowP l).length = l.length * 4
  | [] => rfl
  | m :: l => by rw [rowP_cons]; simp [rowP_length l]; omega
theorem rowP_get : ∀ (l : List Rp) (j : Nat) (m : Rp), l[j]? = some m → (rowP l)[j * 4]? = some (.int .i64 m.2.u) ∧ (rowP l)[j * 4 + 1]? = some (.int .i64 m.2.s) ∧ (rowP l)[j * 4 + 2]? = some (.int .i64 m.2.c) ∧ (rowP l)[j * 4 + 3]? = some (rpV m)
  | [], j, m, h => by simp at h
  | x :: l, 0, m, h => by
    simp at h
    subst h
    exact ⟨rfl, rfl, rfl, rfl⟩
  | x :: l, j + 1, m, h => by
    have ih := rowP_get l j m (by simpa using h)
    rw [rowP_cons, show (j + 1) * 4 = j * 4 + 1 + 1 + 1 + 1 by omega]
    simpa using ih
theorem rowP_one (l : List Rp) : ∀ u ∈ rowP l, u.oneCell' = true := by
  intro u hu
  obtain ⟨m, _, hm⟩ := List.mem_flatMap.1 hu
  simp [rpCells] at hm
  rcases hm with rfl | rfl | rfl | rfl <;> rfl
theorem rowP_take : ∀ (l : List Rp) (i : Nat), (rowP l).take (i * 4) = rowP (l.take i)
  | [], i => by simp [rowP]
  | m :: l, 0 => by simp [rowP]
  | m :: l, i + 1 => by
    rw [rowP_cons, show (i + 1) * 4 = i * 4 + 1 + 1 + 1 + 1 by omega, List.take_succ_cons, List.take_succ_cons, List.take_succ_cons, List.take_succ_cons, rowP_take l i, List.take_succ_cons, rowP_cons]
theorem rowP_drop : ∀ (l : List Rp) (i : Nat), (rowP l).drop (i * 4) = rowP (l.drop i)
  | [], i => by simp [rowP]
  | m :: l, 0 => by simp [rowP]
  | m :: l, i + 1 => by
    rw [rowP_cons, show (i + 1) * 4 = i * 4 + 1 + 1 + 1 + 1 by omega, List.drop_succ_cons, List.drop_succ_cons, List.drop_succ_cons, List.drop_succ_cons, rowP_drop l i, List.drop_succ_cons]
theorem rp_of {F : Nat → Prop} {W : World} {v : Value} {x : Pl} (h : PcsIn F W v x.ps) : ∃ r : Rp, r.2 = x ∧ rpV r = v := by
  obtain ⟨A, d, rfl⟩ := h.form
  exact ⟨((A, d), x), rfl, rfl⟩
def plsR (ls : List Rp) : List Pl := ls.map Prod.snd
/-- All pieces of the places lie in blocks of F. -/
def AllPcs (F : Nat → Prop) (W : World) (ls : List Rp) : Prop := ∀ r ∈ ls, PcsIn F W (rpV r) r.2.ps
theorem AllPcs.keepF {F : Nat → Prop} {W W' : World} {ls : List Rp} (h : AllPcs F W ls) (hs : W.heap.size ≤ W'.heap.size) (hk : ∀ b, b < W.heap.size → F b → W'.heap[b]? = W.heap[b]?) : AllPcs F W' ls := fun r hr => (h r hr).keepF hs hk
theorem AllPcs.keep {F : Nat → Prop} {W W' : World} {ls : List Rp} (h : AllPcs F W ls) (hb : Below W.heap.size W W') : AllPcs F W' ls := fun r hr => (h r hr).keep hb
theorem AllPcs.mono {F G : Nat → Prop} {W : World} {ls : List Rp} (h : AllPcs F W ls) (hg : ∀ b, b < W.heap.size → F b → G b) : AllPcs G W ls := fun r hr => (h r hr).mono hg
theorem AllPcs.nil (F : Nat → Prop) (W : World) : AllPcs F W [] := fun r hr => by cases hr
theorem AllPcs.snoc {F : Nat → Prop} {W : World} {ls : List Rp} (h : AllPcs F W ls) {r : Rp} (hr : PcsIn F W (rpV r) r.2.ps) : AllPcs F W (ls ++ [r]) := fun x hx => by
  rcases List.mem_append.1 hx with hx | hx
  · exact h x hx
  · rw [List.mem_singleton.1 hx]; exact hr
/-- A row of one's own that reads as places, their pieces in blocks of F. -/
theorem pls_of_own {W : World} {base : Nat} {v : Value} {ls : List Rp} {F : Nat → Prop} (h : W.ownsRow base 38 4 v ls.length (rowP ls)) (hp : AllPcs F W ls) : PlsIn (fun b => F b ∨ base ≤ b) W v (plsR ls) := by
  have hpp : ∀ p ∈ ls.map (fun r => (rpV r, r.2)), PcsIn (fun b => F b ∨ base ≤ b) W p.1 p.2.ps := fun p hp' => by
    obtain ⟨r, hr, rfl⟩ := List.mem_map.1 hp'
    exact (hp r hr).mono fun b _ hF => .inl hF
  have hl : (ls.map (fun r => (rpV r, r.2))).length = ls.length := by simp
  have he : plsOf (ls.map (fun r => (rpV r, r.2))) = plsR ls := by unfold plsOf plsR; rw [List.map_map]; rfl
  obtain ⟨h1, h2⟩ := h
  rcases h2 with ⟨rfl, h0⟩ | ⟨g, cap, cur, rfl, hg, hh, hn, hc, hs, ht⟩
  · have : ls = [] := List.eq_nil_of_length_eq_zero h0
    subst this
    exact PlsIn.nil _ W
  · refine ⟨_, he, _, cap, by rw [hl], by rw [hl]; exact hn, by unfold maxLen at hc; omega, fun _ => ⟨g, 0, rfl, heap_lt hh, .inr hg, fun j p hp' => ?_⟩, hpp⟩
    rw [List.getElem?_map] at hp'
    obtain ⟨r, hr, rfl⟩ := Option.map_eq_some_iff.1 hp'
    have hj : j < ls.length := (List.getElem?_eq_some_iff.1 hr).1
    obtain ⟨g0, g1, g2, g3⟩ := rowP_get ls j r hr
    have key : ∀ (i : Nat) (u : Value), i < ls.length * 4 → (rowP ls)[i]? = some u → W.cell? ⟨g, 0 + i, none⟩ = some u := by
      intro i u hi hu
      rw [Nat.zero_add, cell_of_row W g i _ _ (0, 0) hh, ← hu, ← ht, List.getElem?_take, if_pos hi]
      simp
    exact ⟨key _ _ (by omega) g0, by rw [Nat.add_assoc]; exact key _ _ (by omega) g1, by rw [Nat.add_assoc]; exact key _ _ (by omega) g2, by rw [Nat.add_assoc]; exact key _ _ (by omega) g3⟩
/-- Places that lie: each with where its pieces lie. -/
theorem pls_rows {F : Nat → Prop} {W : World} {v : Value} {l : List Pl} (h : PlsIn F W v l) : ∃ ls : List Rp, plsR ls = l ∧ AllPcs F W ls ∧ ∃ A c, v = .slice A l.length c ∧ (0 < l.length → ∃ b off, A = some ⟨b, off, none⟩ ∧ b < W.heap.size ∧ F b ∧ ∀ (i : Nat) (u : Value), (rowP ls)[i]? = some u → W.cell? ⟨b, off + i, none⟩ = some u) := by
  obtain ⟨qs, rfl, A, c, rfl, h2, h3, h4, h5⟩ := h
  have key : ∀ qs : List (Value × Pl), (∀ p ∈ qs, PcsIn F W p.1 p.2.ps) → ∃ ls : List Rp, ls.map (fun r => (rpV r, r.2)) = qs := by
    intro qs
    induction qs with
    | nil => exact fun _ => ⟨[], rfl⟩
    | cons p qs ih =>
      intro hq
      obtain ⟨ls, hls⟩ := ih fun q hq' => hq q (by simp [hq'])
      obtain ⟨r, hr1, hr2⟩ := rp_of (hq p (by simp))
      exact ⟨r :: ls, by rw [List.map_cons, hls, hr1, hr2]⟩
  obtain ⟨ls, hls⟩ := key qs h5
  subst hls
  have he : plsOf (ls.map (fun r => (rpV r, r.2))) = plsR ls := by unfold plsOf plsR; rw [List.map_map]; rfl
  rw [he]
  have hlen : (plsR ls).length = ls.length := by unfold plsR; simp
  refine ⟨ls, rfl, fun r hr => h5 (rpV r, r.2) (List.mem_map.2 ⟨r, hr, rfl⟩), A, c, by rw [hlen, List.length_map], fun h0 => ?_⟩
  obtain ⟨b, off, e, hlt, hf, hc⟩ := h4 (by rw [List.length_map]; omega)
  refine ⟨b, off, e, hlt, hf, fun i u hu => ?_⟩
  have hi : i < ls.length * 4 := by
    have := (List.getElem?_eq_some_iff.1 hu).1
    rwa [rowP_length] at this
  obtain ⟨r, hr⟩ := exP_at (xs := ls) (k := i / 4) (by omega)
  obtain ⟨g0, g1, g2, g3⟩ := rowP_get ls (i / 4) r hr
  obtain ⟨k0, k1, k2, k3⟩ := hc (i / 4) (rpV r, r.2) (by rw [List.getElem?_map, hr]; rfl)
  have hm : i = i / 4 * 4 ∨ i = i / 4 * 4 + 1 ∨ i = i / 4 * 4 + 2 ∨ i = i / 4 * 4 + 3 := by omega
  generalize i / 4 = q at *
  rcases hm with rfl | rfl | rfl | rfl
  · rw [g0] at hu; rw [k0]; exact hu
  · rw [g1] at hu; rw [← Nat.add_assoc, k1]; exact hu
  · rw [g2] at hu; rw [← Nat.add_assoc, k2]; exact hu
  · rw [g3] at hu; rw [← Nat.add_assoc, k3]; exact hu
end Go.Proofs.Ytkgkanmccaodfaa
