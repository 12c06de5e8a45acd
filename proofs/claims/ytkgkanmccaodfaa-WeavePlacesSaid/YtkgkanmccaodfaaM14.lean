/-
  Regions that draw their order: an operation taken first, ahead of whatever waits for it, be it through others.
  Conditions: none.
-/
import Derived.Test.YtkgkanmccaodfaaM13
import Derived.Test.YtkgkanmccaodfaaM03
import Derived.Test.YtkgkanmccaodfaaM02
import Derived.OrdersHeld
import Derived.WalkKit
import Derived.Deep.RegionHeld

/-
  The gaps of a core, as a difference; the rows of gaps and rooms.
  Conditions: none.
-/
set_option linter.unusedVariables false
namespace Go.Proofs.Ytkgkanmccaodfaa

theorem setT_add {p q : Nat → Bool} (h : ∀ t, ¬ (p t = true ∧ q t = true)) : ∀ k : Nat, setT p k + setT q k = setT (fun t => p t || q t) k
  | 0 => rfl
  | k + 1 => by
    have ih := setT_add h k
    have hb : ∀ r : Nat → Bool, (setT r k).testBit k = false := fun r => by rw [setT_bit, decide_eq_false (by omega), Bool.false_and]
    rw [setT, setT, setT]
    have h1 := add_pow (hb p)
    have h2 := add_pow (hb q)
    have h3 := add_pow (hb fun t => p t || q t)
    have hk := h k
    cases hp : p k <;> cases hq : q k
    · simpa [hp, hq] using ih
    · simp only [Bool.false_eq_true, if_false, if_true, Bool.or_true]
      omega
    · simp only [Bool.false_eq_true, if_false, if_true, Bool.or_false]
      omega
    · exact absurd ⟨hp, hq⟩ hk
theorem sub_mask {a b : Nat} (ha : a < 18446744073709551616) (hb : b < 18446744073709551616) (h : ∀ j, b.testBit j = true → a.testBit j = true) : b + setP (fun t => a.testBit t && !b.testBit t) = a := by
  have h1 : setP (b.testBit ·) + setP (fun t => a.testBit t && !b.testBit t) = setP (fun t => b.testBit t || (a.testBit t && !b.testBit t)) := setT_add (fun t => by
    show ¬ (b.testBit t = true ∧ (a.testBit t && !b.testBit t) = true)
    cases b.testBit t <;> simp) 64
  rw [← setP_self hb] at h1
  rw [h1]
  refine (eq_setP ha fun j _ => ?_).symm
  have := h j
  cases hbj : b.testBit j with
  | false => simp
  | true => rw [this hbj]; rfl
/-- All ticks of the frame but those of the windows. -/
theorem gap_sub {f : Int} {m : Nat} {l : List Pl} (hR : Right f m l) {c : Nat} (hc : c < 16) (hb : m.testBit c = true) : winN (pcsOf l) (c : Int) + gapT f m l c = allN f.toNat := by
  have hf := hR.f64
  have hf2 := hR.f2
  have hsub : ∀ j, (winN (pcsOf l) (c : Int)).testBit j = true → (allN f.toNat).testBit j = true := fun j hj => by
    have hj64 : j < 64 := by
      rcases Nat.lt_or_ge j 64 with h | h
      · exact h
      · rw [bit_big (winN_lt _ _) h] at hj
        cases hj
    rw [winN_bit hj64, decide_eq_true_iff] at hj
    rw [allN_bit, decide_eq_true_iff]
    obtain ⟨y, hy, hyc, hyt⟩ := nOn_pos.1 hj
    obtain ⟨x, hx, hyx⟩ := mem_pcsOf.1 hy
    have hne : x.ps ≠ [] := fun e => by rw [e] at hyx; cases hyx
    have := ((hR.place x hx).split hne).kept j hj64
    have h0 := this.2 (nAny_pos.2 ⟨y, hyx, hyt⟩)
    omega
  rw [← sub_mask (allN_lt (show f.toNat ≤ 64 by omega)) (winN_lt (pcsOf l) (c : Int)) hsub]
  congr 1
  unfold gapT
  refine setP_congr fun j hj => ?_
  rw [allN_bit, hb, Bool.true_and]
theorem gap_none {f : Int} {m : Nat} {l : List Pl} {c : Nat} (hb : ¬ m.testBit c = true) : gapT f m l c = 0 := by
  unfold gapT
  refine setP_zero fun j _ => ?_
  rw [Bool.not_eq_true] at hb
  rw [hb]
  rfl
theorem gap_lt (f : Int) (m : Nat) (l : List Pl) (c : Nat) : gapT f m l c < 18446744073709551616 := setP_lt _
/-- The row as the document's function goes through it. -/
def rowK (gm r : Nat → Nat) : Nat → List (Nat × Nat)
  | 0 => []
  | d + 1 => (gm (15 - d), r (15 - d)) :: rowK gm r d
theorem rowK_all (gm r : Nat → Nat) : rowK gm r 16 = (List.range 16).map fun c => (gm c, r c) := rfl
theorem most_row (gm r : Nat → Nat) (k : Nat) : mostT gm r k = leastL (rowK (fun c => fromN k (gm c)) r 16) 0 0 := by
  rw [rowK_all]
  rfl
/-- No least sum is greater than the numbers of its rooms and ticks. -/
theorem least_le : ∀ (l : List (Nat × Nat)) (i o : Nat), leastL l i o ≤ 64 + o
  | [], i, o => by rw [leastL]; have := cnt_le i; omega
  | x :: l, i, o => by
    rw [leastL]
    split
    · exact least_le l i o
    · exact Nat.le_trans (Nat.min_le_left _ _) (least_le l _ o)
end Go.Proofs.Ytkgkanmccaodfaa

/-
  Ticks given to cores one after the other: what a search leaves, found or in vain; at the end there are as many as the least cut.
  Conditions: none.
-/
set_option linter.unusedVariables false
namespace Go.Proofs.Ytkgkanmccaodfaa

/-! ### By how many cores a tick is owned -/
def ownN (ow : Nat → Nat) (j : Nat) : Nat := sumTo (fun c => ((ow c).testBit j).toNat) 16
theorem smF_term {f : Nat → Nat} {d : Nat} : ∀ n : Nat, d < n → f d ≤ sumTo f n
  | 0, h => by omega
  | n + 1, h => by
    rw [sumTo]
    by_cases e : d = n
    · subst e; omega
    · have := smF_term (f := f) (d := d) n (by omega)
      omega
theorem smF_swap {f g : Nat → Nat} {k x y : Nat} : ∀ n : Nat, (∀ c, c < n → c ≠ k → f c = g c) → f k + x = g k + y → k < n → sumTo f n + x = sumTo g n + y
  | 0, _, _, h => by omega
  | n + 1, h, hq, hk => by
    by_cases e : k = n
    · subst e
      have := smF_congr (f := f) (g := g) k fun t ht => h t (by omega) (by omega)
      rw [sumTo, sumTo, this]
      omega
    · have h1 := smF_swap n (fun t ht => h t (by omega)) hq (by omega)
      have h2 := h n (by omega) (fun e2 => e e2.symm)
      rw [sumTo, sumTo, h2]
      omega
theorem smF_pos {f : Nat → Nat} : ∀ n : Nat, 0 < sumTo f n → ∃ c, c < n ∧ 0 < f c
  | 0, h => by rw [sumTo] at h; omega
  | n + 1, h => by
    rw [sumTo] at h
    by_cases e : 0 < f n
    · exact ⟨n, by omega, e⟩
    · obtain ⟨c, hc, h1⟩ := smF_pos (f := f) n (by omega)
      exact ⟨c, by omega, h1⟩
theorem toNat_pos {b : Bool} : 0 < b.toNat ↔ b = true := by cases b <;> simp
theorem own_pos {ow : Nat → Nat} {j : Nat} : 0 < ownN ow j ↔ ∃ c, c < 16 ∧ (ow c).testBit j = true := by
  constructor
  · intro h
    obtain ⟨c, hc, h1⟩ := smF_pos 16 h
    exact ⟨c, hc, toNat_pos.1 h1⟩
  · rintro ⟨c, hc, hb⟩
    have := smF_term (f := fun c => ((ow c).testBit j).toNat) (d := c) 16 hc
    simp only [hb, Bool.toNat_true] at this
    exact this
theorem own_two {ow : Nat → Nat} {j c d : Nat} (h : ownN ow j ≤ 1) (hc : c < 16) (hd : d < 16) (h1 : (ow c).testBit j = true) (h2 : (ow d).testBit j = true) : c = d := by
  by_cases e : c = d
  · exact e
  · exfalso
    have k1 := smF_one (f := fun e => ((ow e).testBit j).toNat) (g := fun e => if e = c then 0 else ((ow e).testBit j).toNat) (k := c) (d := 1) 16 (fun x _ hx => by
      show _ = if x = c then _ else _
      rw [if_neg hx]) (by
      show ((ow c).testBit j).toNat = (if c = c then 0 else _) + 1
      rw [if_pos rfl, h1]
      rfl) hc
    have k2 := smF_term (f := fun e => if e = c then 0 else ((ow e).testBit j).toNat) (d := d) 16 hd
    have k3 : (if d = c then 0 else ((ow d).testBit j).toNat) = 1 := by rw [if_neg (fun e2 => e e2.symm), h2]; rfl
    have k2' : (if d = c then 0 else ((ow d).testBit j).toNat) ≤ sumTo (fun e => if e = c then 0 else ((ow e).testBit j).toNat) 16 := k2
    unfold ownN at h
    omega
/-- One core's ticks set anew. -/
def putO (ow : Nat → Nat) (c x : Nat) (d : Nat) : Nat := if d = c then x else ow d
theorem putO_self {ow : Nat → Nat} {c x : Nat} : putO ow c x c = x := if_pos rfl
theorem putO_ne {ow : Nat → Nat} {c x d : Nat} (h : d ≠ c) : putO ow c x d = ow d := if_neg h
theorem own_put {ow : Nat → Nat} {c x : Nat} (hc : c < 16) (j : Nat) : ownN (putO ow c x) j + ((ow c).testBit j).toNat = ownN ow j + (x.testBit j).toNat :=
  smF_swap 16 (fun d _ hd => by
    show ((putO ow c x d).testBit j).toNat = _
    rw [putO_ne hd]) (by
    show ((putO ow c x c).testBit j).toNat + _ = _
    rw [putO_self]
    omega) hc

/-! ### What a search leaves -/
structure OwnOk (gm r ow : Nat → Nat) : Prop where
  lt : ∀ c, c < 16 → ow c < 18446744073709551616
  gap : ∀ c, c < 16 → ∀ j, (ow c).testBit j = true → (gm c).testBit j = true
  room : ∀ c, c < 16 → cnt (ow c) ≤ r c
structure Vain (gm r ow : Nat → Nat) (T T' : Nat → Bool) : Prop where
  more : ∀ c, c < 16 → T c = true → T' c = true
  full : ∀ c, c < 16 → T' c = true → T c = true ∨ (cnt (ow c) = r c ∧ ∀ j, (ow c).testBit j = true → ∀ d, d < 16 → (gm d).testBit j = true → T' d = true)
/-- All the cores whose gap the tick is are tried. -/
def AllTried (gm : Nat → Nat) (t : Nat) (T : Nat → Bool) : Prop := ∀ d, d < 16 → (gm d).testBit t = true → T d = true
structure Found (gm r : Nat → Nat) (T : Nat → Bool) (t : Nat) (ow ow' : Nat → Nat) : Prop where
  ok : OwnOk gm r ow'
  kept : ∀ c, c < 16 → T c = true → ow' c = ow c
  sum : ∀ j, ownN ow' j = ownN ow j + (decide (j = t)).toNat
structure Moved (gm r : Nat → Nat) (T : Nat → Bool) (k : Nat) (ow ow' : Nat → Nat) : Prop where
  ok : OwnOk gm r ow'
  kept : ∀ c, c < 16 → T c = true → c ≠ k → ow' c = ow c
  sum : ∀ j, ownN ow' j = ownN ow j
  less : cnt (ow' k) + 1 = cnt (ow k)
  sub : ∀ j, (ow' k).testBit j = true → (ow k).testBit j = true
theorem Vain.refl (gm r ow : Nat → Nat) (T : Nat → Bool) : Vain gm r ow T T := ⟨fun _ _ h => h, fun _ _ h => .inl h⟩
theorem Vain.trans {gm r ow : Nat → Nat} {T T1 T2 : Nat → Bool} (h : Vain gm r ow T T1) (h' : Vain gm r ow T1 T2) : Vain gm r ow T T2 := by
  refine ⟨fun c hc hT => h'.more c hc (h.more c hc hT), fun c hc hT => ?_⟩
  rcases h'.full c hc hT with h1 | h1
  · rcases h.full c hc h1 with h2 | ⟨h2, h3⟩
    · exact .inl h2
    · exact .inr ⟨h2, fun j hj d hd hg => h'.more d hd (h3 j hj d hd hg)⟩
  · exact .inr h1
theorem AllTried.mono {gm : Nat → Nat} {t : Nat} {T T' : Nat → Bool} (h : AllTried gm t T) (hm : ∀ c, c < 16 → T c = true → T' c = true) : AllTried gm t T' := fun d hd hg => hm d hd (h d hd hg)
def setT1 (T : Nat → Bool) (c d : Nat) : Bool := if d = c then true else T d
theorem setT1_self {T : Nat → Bool} {c : Nat} : setT1 T c c = true := if_pos rfl
theorem setT1_old {T : Nat → Bool} {c d : Nat} (h : T d = true) : setT1 T c d = true := by unfold setT1; split <;> first | rfl | exact h
theorem setT1_new {T : Nat → Bool} {c d : Nat} (h : setT1 T c d = true) : d = c ∨ T d = true := by
  unfold setT1 at h
  split at h
  · rename_i e; exact .inl e
  · exact .inr h
/-- A core tried in vain. -/
theorem Vain.core {gm r ow : Nat → Nat} {T T1 T2 : Nat → Bool} {c : Nat} (hok : OwnOk gm r ow) (hc : c < 16) (h : Vain gm r ow T T1) (h' : Vain gm r ow (setT1 T1 c) T2) (hfull : ¬ cnt (ow c) < r c) (hs : ∀ j, (ow c).testBit j = true → AllTried gm j T2) : Vain gm r ow T T2 := by
  refine ⟨fun d hd hT => h'.more d hd (setT1_old (h.more d hd hT)), fun d hd hT => ?_⟩
  rcases h'.full d hd hT with h1 | h1
  · rcases setT1_new h1 with e | h1
    · subst e
      have := hok.room d hd
      exact .inr ⟨by omega, fun j hj => hs j hj⟩
    · rcases h.full d hd h1 with h2 | ⟨h2, h3⟩
      · exact .inl h2
      · exact .inr ⟨h2, fun j hj e he hg => h'.more e he (setT1_old (h3 j hj e he hg))⟩
  · exact .inr h1
/-- How many cores are not tried. -/
def untr (T : Nat → Bool) : Nat := cnF (fun c => !T c) 16
theorem untr_mono {T T' : Nat → Bool} (h : ∀ c, c < 16 → T c = true → T' c = true) : untr T' ≤ untr T := cnF_le 16 fun c hc hn => by
  cases hT : T c with
  | false => rfl
  | true => rw [h c hc hT] at hn; cases hn
theorem untr_set {T : Nat → Bool} {c : Nat} (hc : c < 16) (h : T c = false) : untr (setT1 T c) < untr T := by
  have := cnF_one (p := fun d => !T d) (q := fun d => !setT1 T c d) (k := c) 16 (fun d _ hd => by
    show (!T d) = !setT1 T c d
    unfold setT1
    rw [if_neg hd]) (by
    show (!setT1 T c c) = false
    rw [setT1_self]
    rfl) hc
  simp only [h, Bool.not_false, Bool.toNat_true] at this
  unfold untr
  omega
/-- The tick goes to a core that has room. -/
theorem found_room {gm r ow : Nat → Nat} {T : Nat → Bool} {t c : Nat} (hok : OwnOk gm r ow) (hc : c < 16) (ht : t < 64) (hT : T c = false) (hg : (gm c).testBit t = true) (hn : (ow c).testBit t = false) (hr : cnt (ow c) < r c) :
    Found gm r T t ow (putO ow c (withN (ow c) t)) := by
  have hcw := cnt_with hn ht
  refine ⟨⟨fun d hd => ?_, fun d hd j hj => ?_, fun d hd => ?_⟩, fun d hd hTd => ?_, fun j => ?_⟩
  · by_cases e : d = c
    · subst e; rw [putO_self]; exact withN_lt (hok.lt d hd) ht
    · rw [putO_ne e]; exact hok.lt d hd
  · by_cases e : d = c
    · subst e
      rw [putO_self, withN_bit, Bool.or_eq_true, decide_eq_true_iff] at hj
      rcases hj with hj | rfl
      · exact hok.gap d hd j hj
      · exact hg
    · rw [putO_ne e] at hj; exact hok.gap d hd j hj
  · by_cases e : d = c
    · subst e; rw [putO_self]; omega
    · rw [putO_ne e]; exact hok.room d hd
  · exact putO_ne fun e => by rw [e, hT] at hTd; cases hTd
  · have := own_put (ow := ow) (x := withN (ow c) t) hc j
    rw [withN_bit] at this
    by_cases e : j = t
    · subst e
      rw [hn, decide_eq_true rfl] at this
      rw [decide_eq_true rfl]
      simpa using this
    · rw [decide_eq_false (fun e2 => e e2.symm), Bool.or_false] at this
      rw [decide_eq_false e, Bool.toNat_false]
      omega
/-- One of the core's ticks goes on, the tick comes in its place. -/
theorem found_moved {gm r ow ow2 : Nat → Nat} {T T1 : Nat → Bool} {t c : Nat} (hc : c < 16) (ht : t < 64) (hT : T c = false) (hg : (gm c).testBit t = true) (hn : (ow c).testBit t = false) (hr : cnt (ow c) ≤ r c)
    (hm : ∀ d, d < 16 → T d = true → T1 d = true) (h : Moved gm r T1 c ow ow2) : Found gm r T t ow (putO ow2 c (withN (ow2 c) t)) := by
  have hn2 : (ow2 c).testBit t = false := by
    rw [← Bool.not_eq_true]
    intro hb
    rw [h.sub t hb] at hn
    cases hn
  have hcw := cnt_with hn2 ht
  have hless := h.less
  refine ⟨⟨fun d hd => ?_, fun d hd j hj => ?_, fun d hd => ?_⟩, fun d hd hTd => ?_, fun j => ?_⟩
  · by_cases e : d = c
    · subst e; rw [putO_self]; exact withN_lt (h.ok.lt d hd) ht
    · rw [putO_ne e]; exact h.ok.lt d hd
  · by_cases e : d = c
    · subst e
      rw [putO_self, withN_bit, Bool.or_eq_true, decide_eq_true_iff] at hj
      rcases hj with hj | rfl
      · exact h.ok.gap d hd j hj
      · exact hg
    · rw [putO_ne e] at hj; exact h.ok.gap d hd j hj
  · by_cases e : d = c
    · subst e; rw [putO_self]; omega
    · rw [putO_ne e]; exact h.ok.room d hd
  · have hne : d ≠ c := fun e => by rw [e, hT] at hTd; cases hTd
    rw [putO_ne hne]
    exact h.kept d hd (hm d hd hTd) hne
  · have := own_put (ow := ow2) (x := withN (ow2 c) t) hc j
    rw [withN_bit, h.sum] at this
    by_cases e : j = t
    · subst e
      rw [hn2, decide_eq_true rfl] at this
      rw [decide_eq_true rfl]
      simpa using this
    · rw [decide_eq_false (fun e2 => e e2.symm), Bool.or_false] at this
      rw [decide_eq_false e, Bool.toNat_false]
      omega
theorem less_bit (a t j : Nat) (ha : a < 18446744073709551616) : (lessN a (withN 0 t)).testBit j = (a.testBit j && !decide (t = j)) := by
  by_cases hj : j < 64
  · unfold lessN
    rw [setP_bit, decide_eq_true hj, Bool.true_and, withN_bit, Nat.zero_testBit, Bool.false_or]
  · have hl : lessN a (withN 0 t) < 18446744073709551616 := setP_lt _
    rw [bit_big hl (by omega), bit_big ha (by omega), Bool.false_and]
theorem or_tick (a t : Nat) : a ||| withN 0 t = withN a t := by
  unfold withN
  rw [Nat.zero_or]
/-- The tick that went on leaves the core. -/
theorem moved_found {gm r ow ow2 : Nat → Nat} {T Ty : Nat → Bool} {t k : Nat} (hk : k < 16) (ht : t < 64) (hT : Ty k = true) (hb : (ow k).testBit t = true)
    (hm : ∀ d, d < 16 → T d = true → Ty d = true) (h : Found gm r Ty t ow ow2) : Moved gm r T k ow (putO ow2 k (lessN (ow2 k) (withN 0 t))) := by
  have hk2 := h.kept k hk hT
  have hlt := h.ok.lt k hk
  have hbit := fun j => less_bit (ow2 k) t j hlt
  have hno : (lessN (ow2 k) (withN 0 t)).testBit t = false := by rw [hbit, decide_eq_true rfl]; simp
  have hl64 : lessN (ow2 k) (withN 0 t) < 18446744073709551616 := setP_lt _
  have hback : withN (lessN (ow2 k) (withN 0 t)) t = ow2 k := eq_of_bits (withN_lt hl64 ht) hlt fun j hj => by
    rw [withN_bit, hbit]
    by_cases e : t = j
    · subst e; rw [hk2, hb]; simp
    · rw [decide_eq_false e]; simp
  have hcw := cnt_with hno ht
  rw [hback] at hcw
  have hroom := h.ok.room k hk
  refine ⟨⟨fun d hd => ?_, fun d hd j hj => ?_, fun d hd => ?_⟩, fun d hd hTd hne => ?_, fun j => ?_, ?_, fun j hj => ?_⟩
  · by_cases e : d = k
    · subst e; rw [putO_self]; exact hl64
    · rw [putO_ne e]; exact h.ok.lt d hd
  · by_cases e : d = k
    · subst e
      rw [putO_self, hbit, Bool.and_eq_true] at hj
      exact h.ok.gap d hd j hj.1
    · rw [putO_ne e] at hj; exact h.ok.gap d hd j hj
  · by_cases e : d = k
    · subst e; rw [putO_self]; omega
    · rw [putO_ne e]; exact h.ok.room d hd
  · rw [putO_ne hne]
    exact h.kept d hd (hm d hd hTd)
  · have h1 := own_put (ow := ow2) (x := lessN (ow2 k) (withN 0 t)) hk j
    have h2 := h.sum j
    rw [hbit] at h1
    by_cases e : j = t
    · subst e
      have hb2 : (ow2 k).testBit j = true := by rw [hk2]; exact hb
      rw [hb2, decide_eq_true rfl] at h1
      rw [decide_eq_true rfl] at h2
      simp only [Bool.not_true, Bool.and_false, Bool.toNat_false, Bool.toNat_true] at h1 h2
      omega
    · rw [decide_eq_false (fun e2 => e e2.symm), Bool.not_false, Bool.and_true] at h1
      rw [decide_eq_false e, Bool.toNat_false] at h2
      omega
  · rw [putO_self, ← hk2]
    omega
  · rw [putO_self, hbit, Bool.and_eq_true, hk2] at hj
    exact hj.1

/-! ### All the ticks from one on -/
structure Kuhn (gm r : Nat → Nat) (k T : Nat) (ow : Nat → Nat) (R : Nat → Bool) (n : Nat) : Prop where
  ok : OwnOk gm r ow
  one : ∀ j, ownN ow j ≤ 1
  ticks : ∀ j, 0 < ownN ow j → k ≤ j ∧ j < T
  num : cnF (fun j => decide (0 < ownN ow j)) 64 = n
  full : ∀ c, c < 16 → R c = true → cnt (ow c) = r c ∧ ∀ j, (ow c).testBit j = true → AllTried gm j R
  lost : ∀ j, k ≤ j → j < T → ownN ow j = 0 → AllTried gm j R
theorem own_zero (j : Nat) : ownN (fun _ => 0) j = 0 := by
  rcases Nat.eq_zero_or_pos (ownN (fun _ => 0) j) with h | h
  · exact h
  · obtain ⟨c, _, hb⟩ := own_pos.1 h
    rw [Nat.zero_testBit] at hb
    cases hb
theorem Kuhn.start (gm r : Nat → Nat) (k : Nat) : Kuhn gm r k k (fun _ => 0) (fun _ => false) 0 :=
  ⟨⟨fun _ _ => by decide, fun _ _ j hj => (by rw [Nat.zero_testBit] at hj; cases hj), fun c _ => by rw [cnt_zero]; exact Nat.zero_le _⟩, fun j => by rw [own_zero]; exact Nat.zero_le _, fun j hj => by rw [own_zero] at hj; omega,
    cnF_none 64 (fun j _ => by rw [own_zero]; rfl), fun c _ h => (by cases h), fun j h1 h2 => by omega⟩
theorem Kuhn.fresh {gm r : Nat → Nat} {k T : Nat} {ow : Nat → Nat} {R : Nat → Bool} {n : Nat} (h : Kuhn gm r k T ow R n) : ownN ow T = 0 := by
  rcases Nat.eq_zero_or_pos (ownN ow T) with h0 | h0
  · exact h0
  · have := (h.ticks T h0).2
    omega
theorem Kuhn.no {gm r : Nat → Nat} {k T : Nat} {ow : Nat → Nat} {R : Nat → Bool} {n : Nat} (h : Kuhn gm r k T ow R n) (c : Nat) (hc : c < 16) : (ow c).testBit T = false := by
  rw [← Bool.not_eq_true]
  intro hb
  have := own_pos.2 ⟨c, hc, hb⟩
  rw [h.fresh] at this
  omega
theorem Kuhn.found {gm r : Nat → Nat} {k T : Nat} {ow ow' : Nat → Nat} {R : Nat → Bool} {n : Nat} (h : Kuhn gm r k T ow R n) (hk : k ≤ T) (hT : T < 64) (hf : Found gm r R T ow ow') : Kuhn gm r k (T + 1) ow' R (n + 1) := by
  have h0 := h.fresh
  refine ⟨hf.ok, fun j => ?_, fun j hj => ?_, ?_, fun c hc hR => ?_, fun j h1 h2 h3 => ?_⟩
  · rw [hf.sum]
    by_cases e : j = T
    · subst e; rw [h0, decide_eq_true rfl]; exact Nat.le_refl _
    · rw [decide_eq_false e]; exact h.one j
  · rw [hf.sum] at hj
    by_cases e : j = T
    · subst e; omega
    · rw [decide_eq_false e] at hj
      have := h.ticks j hj
      omega
  · have := cnF_one (p := fun j => decide (0 < ownN ow' j)) (q := fun j => decide (0 < ownN ow j)) (k := T) 64 (fun j _ hj => by
      show decide (0 < ownN ow' j) = _
      rw [hf.sum, decide_eq_false hj]
      rfl) (by
      show decide (0 < ownN ow T) = false
      rw [h0]
      rfl) hT
    have e : decide (0 < ownN ow' T) = true := by rw [hf.sum, h0, decide_eq_true rfl]; rfl
    rw [e, Bool.toNat_true, h.num] at this
    exact this
  · rw [hf.kept c hc hR]
    exact h.full c hc hR
  · rw [hf.sum] at h3
    by_cases e : j = T
    · rw [decide_eq_true e] at h3; simp at h3
    · rw [decide_eq_false e] at h3
      exact h.lost j h1 (by omega) h3
theorem Kuhn.vain {gm r : Nat → Nat} {k T : Nat} {ow : Nat → Nat} {R R' : Nat → Bool} {n : Nat} (h : Kuhn gm r k T ow R n) (hv : Vain gm r ow R R') (hs : AllTried gm T R') : Kuhn gm r k (T + 1) ow R' n := by
  refine ⟨h.ok, h.one, fun j hj => ?_, h.num, fun c hc hR => ?_, fun j h1 h2 h3 => ?_⟩
  · have := h.ticks j hj
    omega
  · rcases hv.full c hc hR with h1 | h1
    · obtain ⟨k1, k2⟩ := h.full c hc h1
      exact ⟨k1, fun j hj => (k2 j hj).mono hv.more⟩
    · exact h1
  · by_cases e : j = T
    · subst e; exact hs
    · exact (h.lost j h1 (by omega) h3).mono hv.more
theorem Kuhn.most {gm r : Nat → Nat} {k T : Nat} {ow : Nat → Nat} {R : Nat → Bool} {n : Nat} (h : Kuhn gm r k T ow R n) (hg : ∀ c, c < 16 → ∀ t, t < 64 → T ≤ t → (gm c).testBit t = false) : n = mostT gm r k := by
  have hat : ∀ t c, (List.range 16).find? (fun c => (ow c).testBit t) = some c ↔ c < 16 ∧ (ow c).testBit t = true := fun t c => by
    constructor
    · intro he
      exact ⟨List.mem_range.1 (List.mem_of_find?_eq_some he), List.find?_some (p := fun c => (ow c).testBit t) he⟩
    · rintro ⟨hc, hb⟩
      cases he : (List.range 16).find? (fun c => (ow c).testBit t) with
      | none =>
        rw [List.find?_eq_none] at he
        exact absurd hb (he c (List.mem_range.2 hc))
      | some d =>
        rw [own_two (h.one t) hc (List.mem_range.1 (List.mem_of_find?_eq_some he)) hb (List.find?_some (p := fun c => (ow c).testBit t) he)]
  have hcn : ∀ c, c < 16 → cnF (fun t => (List.range 16).find? (fun c => (ow c).testBit t) == some c) 64 = cnt (ow c) := fun c hc => by
    rw [cnt_F]
    refine cnF_congr 64 fun t _ => ?_
    rw [Bool.eq_iff_iff, beq_iff_eq, hat]
    exact ⟨fun e => e.2, fun e => ⟨hc, e⟩⟩
  have hG : Given 64 16 (gB gm k) r (fun t => (List.range 16).find? fun c => (ow c).testBit t) := by
    refine ⟨fun t c ht he => ?_, fun c hc => ?_⟩
    · obtain ⟨hc, hb⟩ := (hat t c).1 he
      refine ⟨hc, ?_⟩
      unfold gB
      rw [h.ok.gap c hc t hb, decide_eq_true (h.ticks t (own_pos.2 ⟨c, hc, hb⟩)).1]
      rfl
    · rw [hcn c hc]
      exact h.ok.room c hc
  have hN : givenN (fun t => (List.range 16).find? fun c => (ow c).testBit t) 64 = n := by
    rw [← h.num]
    unfold givenN
    refine cnF_congr 64 fun t _ => ?_
    rw [Bool.eq_iff_iff, decide_eq_true_iff, own_pos, Option.isSome_iff_exists]
    exact ⟨fun ⟨c, e⟩ => ⟨c, (hat t c).1 e⟩, fun ⟨c, e⟩ => ⟨c, (hat t c).2 e⟩⟩
  have hM := given_most hG R (fun c hc hR => by rw [hcn c hc]; exact (h.full c hc hR).1) fun t ht hcl d hd hgd => by
    unfold gB at hgd
    rw [Bool.and_eq_true, decide_eq_true_iff] at hgd
    have htT : t < T := by
      rcases Nat.lt_or_ge t T with h1 | h1
      · exact h1
      · rw [hg d hd t ht h1] at hgd
        exact absurd hgd.1 (by decide)
    rcases Nat.eq_zero_or_pos (ownN ow t) with h0 | h0
    · exact h.lost t hgd.2 htT h0 d hd hgd.1
    · obtain ⟨c, hc, hb⟩ := own_pos.1 h0
      have hR := hcl c ((hat t c).2 ⟨hc, hb⟩)
      exact (h.full c hc hR).2 t hb d hd hgd.1
  rw [hN] at hM
  exact hM.unique (most_is gm r k)
end Go.Proofs.Ytkgkanmccaodfaa

/-
  The ticks of a mask, in memory of the call's own.
  Conditions: the numbers are of their kinds.
-/
set_option linter.unusedVariables false
namespace Go.Proofs.Ytkgkanmccaodfaa
open Go.RowKit

/-- A list that a call answers, in memory that was not there. -/
def RetLF (xs : List Int) (w : World) (e : Ending) (w' : World) : Prop := ∃ v, e = .returned v ∧ IntsAt w' v xs ∧ Below w.heap.size w w' ∧ ∀ k, v.ownBlock = some k → w.heap.size ≤ k
theorem IntsAt.apart {F : Nat → Prop} {W W' : World} {v : Value} {xs : List Int} (h : IntsAt W v xs) (hF : ∀ k, v.ownBlock = some k → ¬ F k) (ha : Apart F W W') : IntsAt W' v xs := by
  obtain ⟨A, c, rfl, h2, h3⟩ := h
  refine ⟨A, c, rfl, h2, fun hn => ?_⟩
  obtain ⟨b, off, e, hlt, hc⟩ := h3 hn
  subst e
  refine ⟨b, off, rfl, Nat.lt_of_lt_of_le hlt ha.size, fun j x hx => ?_⟩
  have hb := ha.block b hlt (hF b rfl)
  rw [← hc j x hx]
  simp [World.cell?, hb]

set_option maxRecDepth 100000 in
set_option maxHeartbeats 1000000 in
theorem ticksF_any (m : Nat) (w : World) (hm : m < 18446744073709551616) (HC : ∀ W, Calls Try.prog 74 #[.int .u64 m] W (Ret (.int .i64 (cnt m)) W)) :
    Calls Try.prog 75 #[.int .u64 m] w (RetLF (ticksI m 64) w) := by
  obtain ⟨i0, hi, hz0, hz1, hz2⟩ := info_parts Try.infoInt
  have HCC := Lib.hid HC
  have hc64 := cnt_le m
  generalize cnt m = c at *
  clear HC
  go_enter Try.func75, Try.ntmps75
  go_wp2_with (first
    | (go_at_call 74; refine (HCC.out _).mono ?_; rintro e w' ⟨rfl, rfl⟩)
    | (at_make; refine wpList_make_own _ rfl _ _ 29 rfl w.heap.size 3 i0 (.int .i64 0) 1 Try.underlying29 hi hz0 hz1 _ _ _ c rfl rfl rfl (by rw [hz2]; omega) (by unfold maxLen; omega) (Nat.le_refl _) ?_; intro w1 hown1 hgrow1))
  have HB0 := Lib.hid (below_grown4 hgrow1 (Nat.le_refl _) (fun k h => by cases h))
  have HO0 := Lib.hid hown1
  clear hown1 hgrow1
  go_loopg [3, 8] 64 (fun g s i wr => TicksRel m w g s i wr)
  case atStart => exact ⟨0, Nat.zero_le _, rfl, rfl, HB0.out, HO0.out⟩
  case round =>
    obtain ⟨k, hk, hg, rfl, hbr, hown⟩ := hrel
    have HG := Lib.hid hg
    have HB := Lib.hid hbr
    have HO := Lib.hid hown
    clear hg hbr hown
    by_cases hlt : k < 64
    · have HH := Lib.hid (fun W => has_any m (k : Int) W hm)
      rw [hasB_nat hlt] at HH
      have hlen : cntT m k ≤ k := cntT_le m k
      rw [ticksI_length] at HO
      generalize hn : cntT m k = n at *
      have HN := Lib.hid hn
      clear hn
      cases hb : m.testBit k
      · have HE := Lib.hid (ticksI_no hb)
        rw [hb] at HH
        clear hb
        go_wp2_with (go_at_call 77; refine (HH.out _).mono ?_; rintro e w' ⟨rfl, rfl⟩)
        go_roundg (64 - (k + 1))
        case measure => have := HG.out; omega
        case rel => exact ⟨k + 1, by omega, rfl, by go_num, HB.out, by rw [HE.out, ticksI_length, HN.out]; exact HO.out⟩
      · have HE := Lib.hid (ticksI_yes hb)
        rw [hb] at HH
        clear hb
        have hsz := HB.out.size
        go_wp2_with (first
          | (go_at_call 77; refine (HH.out _).mono ?_; rintro e w' ⟨rfl, rfl⟩)
          | (at_builtin; refine wpList_append_own _ rfl _ _ 29 rfl w.heap.size 3 i0 (.int .i64 0) 1 8 Try.underlying29 hi hz0 hz1 hz2 rfl (by decide) _ _ _ rfl (HO.out.alloc _) ⟨wr.heap.size, 0, none⟩ 1 1 [.int .i64 k] rfl rfl ?c1 ?c2 ?c3 ?c4 ?c5 ?_))
        case c1 =>
          intro j u hj
          rcases j with _ | j
          · simpa [Addr.add] using hj
          · simp at hj
        case c2 => intro u hu; simp at hu; subst hu; rfl
        case c3 => unfold maxLen; omega
        case c4 => omega
        case c5 => simp; omega
        intro v2 w2 hown2 hgrow _
        have HB2 := Lib.hid ((HB.out.alloc hsz _).trans (below_grown4 hgrow (by simp; omega) (own_base4 HO.out)))
        have HO2 := Lib.hid hown2
        clear hown2 hgrow hsz
        go_wp2
        go_roundg (64 - (k + 1))
        case measure => have := HG.out; omega
        case rel =>
          refine ⟨k + 1, by omega, rfl, by go_num, HB2.out, ?_⟩
          have e := HO2.out
          rw [HE.out, List.length_append, ticksI_length, HN.out, List.map_append]
          exact e
    · have hk64 : k = 64 := by omega
      subst hk64
      have HR := Lib.hid (ints_of_own HO.out (by rw [ticksI_length]; have := cntT_le m 64; omega))
      go_wp2
      go_ret
      exact ⟨_, rfl, HR.out, HB.out, own_base4 HO.out⟩

end Go.Proofs.Ytkgkanmccaodfaa

/-
  The set of some ticks: the program's and the document's; a set is the set of its ticks.
  Conditions: the numbers are of their kinds.
-/
set_option linter.unusedVariables false
namespace Go.Proofs.Ytkgkanmccaodfaa
open Go.RowKit

/-- The set of the first k of a list. -/
def ofT (xs : List Int) (k : Nat) : Nat := (xs.take k).foldl withI 0
def ofI (xs : List Int) : Nat := xs.foldl withI 0
theorem ofT_zero (xs : List Int) : ofT xs 0 = 0 := rfl
theorem ofT_succ {xs : List Int} {k : Nat} {x : Int} (h : xs[k]? = some x) : ofT xs (k + 1) = withI (ofT xs k) x := by
  unfold ofT
  rw [List.take_add_one, h, List.foldl_append]
  rfl
theorem ofT_all {xs : List Int} {k : Nat} (h : xs.length ≤ k) : ofT xs k = ofI xs := by
  unfold ofT ofI
  rw [List.take_of_length_le h]
theorem ofT_lt (xs : List Int) : ∀ k, ofT xs k < 18446744073709551616
  | 0 => by rw [ofT_zero]; decide
  | k + 1 => by
    rcases Nat.lt_or_ge k xs.length with h | h
    · rw [ofT_succ (List.getElem?_eq_getElem h)]
      exact withI_lt (ofT_lt xs k)
    · have := ofT_lt xs k
      rw [ofT_all (k := k) h] at this
      rw [ofT_all (k := k + 1) (by omega)]
      exact this
theorem ofI_lt (xs : List Int) : ofI xs < 18446744073709551616 := by rw [← ofT_all (Nat.le_refl _)]; exact ofT_lt _ _
theorem of_ticks {m : Nat} (hm : m < 18446744073709551616) : ofI (ticksI m 64) = m := by
  have key : ∀ k, k ≤ cnt m → ofT (ticksI m 64) k = lowN m k := by
    intro k
    induction k with
    | zero => intro _; rw [ofT_zero, lowN_zero]
    | succ k ih =>
      intro hk
      obtain ⟨x, hx⟩ := ex_at (xs := ticksI m 64) (k := k) (by rw [ticksI_length]; exact hk)
      obtain ⟨j, rfl, hj⟩ := ticksI_get hx
      rw [ofT_succ hx, ih (by omega), withI_nat ((tick_iff m k j).1 hj).1, lowN_succ hj]
  have h := key (cnt m) (Nat.le_refl _)
  rw [ofT_all (by rw [ticksI_length]; exact Nat.le_refl _), lowN_all m (Nat.le_refl _) hm] at h
  exact h

def OfRel (xs : List Int) (s i : Value) : Prop := ∃ k : Nat, k ≤ xs.length ∧ i = .int .i64 k ∧ s = .int .u64 (ofT xs k)

set_option maxHeartbeats 1000000 in
theorem of_any (xs : List Int) (v : Value) (w : World) (hs : IntsAt w v xs) : Calls Try.prog 60 #[v] w (Ret (.int .u64 (ofI xs)) w) := by
  obtain ⟨A, c, rfl, hl, hat⟩ := hs
  have HA := Lib.hid hat
  clear hat
  go_enter Try.func60, Try.ntmps60
  go_wp2
  go_loop [3, 8] (fun s i => OfRel xs s i) (fun _ i => xs.length - (intOf i).toNat)
  case atStart => exact ⟨0, Nat.zero_le _, rfl, by rw [ofT_zero]; rfl⟩
  case round =>
    obtain ⟨k, hk, rfl, rfl⟩ := hrel
    by_cases hlt : k < xs.length
    · obtain ⟨x, hx⟩ := ex_at hlt
      obtain ⟨b, off, rfl, hb, hc⟩ := HA.out (by omega)
      have hck := hc k x hx
      have HX := Lib.hid (ofT_succ hx)
      have hm := ofT_lt xs k
      clear hc hx
      have HR := Lib.hid (inRange_any x w)
      by_cases h : 0 ≤ x ∧ x < 64
      · obtain ⟨T, rfl⟩ := Int.eq_ofNat_of_zero_le h.1
        have hT : T < 64 := by omega
        rw [decide_eq_true h] at HR
        have ho := or_word hm hT
        rw [withI_nat hT] at HX
        generalize ofT xs k = y at *
        generalize withN y T = z at *
        clear h
        go_wp2_with (go_at_call 85; refine HR.out.mono ?_; rintro e w' ⟨rfl, rfl⟩)
        go_round
        case rel => exact ⟨k + 1, by omega, by go_num, by rw [HX.out]⟩
        case measure => simp [intOf]; omega
      · rw [decide_eq_false h] at HR
        rw [withI_out h] at HX
        generalize ofT xs k = y at *
        clear h
        go_wp2_with (go_at_call 85; refine HR.out.mono ?_; rintro e w' ⟨rfl, rfl⟩)
        go_round
        case rel => exact ⟨k + 1, by omega, by go_num, by rw [HX.out]⟩
        case measure => simp [intOf]; omega
    · have HE := Lib.hid (ofT_all (xs := xs) (k := k) (by omega))
      go_wp2
      go_ret
      exact ⟨ret_nat HE.out, rfl⟩
end Go.Proofs.Ytkgkanmccaodfaa

/-
  A law on regions whose order is open: a load may be taken first where every operation that could come before it leaves the loaded cells as they are, though a store that waits for all loads writes them.
  Conditions: those of each law. The condition S is shown anew behind the operations that N names, not behind the others.
-/
namespace Go.Proofs.Ytkgkanmccaodfaa
open Go

section
variable {P : Program} {ops : Array Oper} {Q : Exit → Act → World → Prop} {md : Region.Mode} {S1 S2 : World → Prop} {N : Nat → Bool}

/-- Whatever order is drawn; behind each operation the world meets S1, and an operation that N names keeps S2. -/
def wpAnyN (P : Program) (md : Region.Mode) (ops : Array Oper) (Q : Exit → Act → World → Prop) (S1 S2 : World → Prop) (N : Nat → Bool) : Nat → Array Bool → Act → World → Prop
  | 0, listed, a, w => Region.ready md ops listed = [] ∧ Q .normal a w
  | fuel + 1, listed, a, w =>
    (Region.ready md ops listed = [] → Q .normal a w) ∧
    ∀ i ∈ Region.ready md ops listed, wpOp P ops Q i (fun a' w' => (S1 w' ∧ (N i = true → S2 w → S2 w')) ∧ wpAnyN P md ops Q S1 S2 N fuel (listed.setIfInBounds i true) a' w') a w

theorem wpAny_of_N : ∀ (fuel : Nat) (listed : Array Bool) (a : Act) (w : World), wpAnyN P md ops Q S1 S2 N fuel listed a w → wpAny P md ops Q fuel listed a w
  | 0, _, _, _, h => h
  | fuel + 1, _, _, _, h => ⟨h.1, fun i hi => wpOp_mono (fun _ _ h' => wpAny_of_N fuel _ _ _ h'.2) (h.2 i hi)⟩

/-- What a taken operation may lean on: S1, and S2 where 'b2' says so. -/
def Leans (S1 S2 : World → Prop) (b2 : Bool) (w : World) : Prop := S1 w ∧ (b2 = true → S2 w)

/-- Operation i may be taken first: every other one that has not come up waits for it, or is apart from it and keeps what it leans on. -/
theorem wpAnyN_first {i : Nat} {oi : Oper} {v : Value} {b2 : Bool} (hi : ops[i]? = some oi) (hsel : ∀ (j : Nat) (o : Oper) cs b, ops[j]? = some o → o.op ≠ .select cs b)
    (hQ : ∀ c a w, Q (.panic c) (a.put oi.dst v) w → Q (.panic c) a w) :
    ∀ (fuel : Nat) (listed : Array Bool) (a : Act) (w : World),
      (∀ j oj, ops[j]? = some oj → j ≠ i → listed.getD j true = false → (∀ e ∈ oj.after, Region.binds md e = true → e.on ≠ i) → oi.apart ops oj = true ∧ (b2 = true → N j = true)) →
      i ∈ Region.ready md ops listed → YieldsIf P ops (Leans S1 S2 b2) oi v a → Leans S1 S2 b2 w →
      wpAnyN P md ops Q S1 S2 N fuel (listed.setIfInBounds i true) (a.put oi.dst v) w → wpAnyN P md ops Q S1 S2 N (fuel + 1) listed a w := by
  intro fuel
  induction fuel with
  | zero =>
    intro listed a w _ hr hy hS H
    refine ⟨fun h => (by rw [h] at hr; cases hr), fun j hj => ?_⟩
    by_cases hji : j = i
    · subst hji; exact hy.wpOp hi hS ⟨⟨hS.1, fun _ h => h⟩, H⟩
    · have := ready_mono hj hji
      rw [H.1] at this
      cases this
  | succ fuel ih =>
    intro listed a w hfree hr hy hS H
    refine ⟨fun h => (by rw [h] at hr; cases hr), fun j hj => ?_⟩
    by_cases hji : j = i
    · subst hji; exact hy.wpOp hi hS ⟨⟨hS.1, fun _ h => h⟩, H⟩
    · have h1 := H.2 j (ready_mono hj hji)
      obtain ⟨hjun, oj, hoj, hall⟩ := mem_ready.1 hj
      have hnot : ∀ e ∈ oj.after, Region.binds md e = true → e.on ≠ i := fun e he hb heq => by
        have h1 := hall e he hb
        have h0 := (mem_ready.1 hr).1
        rw [heq] at h1
        rcases Nat.lt_or_ge i listed.size with h' | h'
        · simp [h'] at h0 h1; rw [h0] at h1; cases h1
        · simp [Array.getElem?_eq_none h'] at h1
      obtain ⟨hap, hN⟩ := hfree j oj hoj hji hjun hnot
      have h2 := wpOp_putIf hoj hap (fun cs b => hsel i oi cs b hi) (fun cs b => hsel j oj cs b hoj) hQ hy h1
      have hfree' : ∀ k ok, ops[k]? = some ok → k ≠ i → (listed.setIfInBounds j true).getD k true = false →
          (∀ e ∈ ok.after, Region.binds md e = true → e.on ≠ i) → oi.apart ops ok = true ∧ (b2 = true → N k = true) := fun k ok hk hki hun hno => by
        refine hfree k ok hk hki ?_ hno
        by_cases hjk : j = k
        · subst hjk; exact hjun
        · rw [getD_set_ne true hjk] at hun; exact hun
      refine wpOp_mono (fun a' w' h3 => ⟨h3.2.1, ih (listed.setIfInBounds j true) a' w' hfree' (ready_mono hr (Ne.symm hji)) h3.1 ⟨h3.2.1.1, fun hb => h3.2.1.2 (hN hb) (hS.2 hb)⟩ ?_⟩) h2
      rw [Array.setIfInBounds_comm _ _ hji]
      exact h3.2.2

/-- The side condition as a Bool. -/
def freeOrd (md : Region.Mode) (ops : Array Oper) (N : Nat → Bool) (b2 : Bool) (listed : Array Bool) (i : Nat) : Bool :=
  match ops[i]? with
  | none => false
  | some oi => (List.range ops.size).all fun j => j == i || listed.getD j true || match ops[j]? with
      | some oj => oj.after.any (fun e => Region.binds md e && e.on == i) || (oi.apart ops oj && (!b2 || N j))
      | none => true

theorem freeOrd_spec {i : Nat} {oi : Oper} {b2 : Bool} {listed : Array Bool} (hi : ops[i]? = some oi) (h : freeOrd md ops N b2 listed i = true) (j : Nat) (oj : Oper)
    (hj : ops[j]? = some oj) (hne : j ≠ i) (hun : listed.getD j true = false) (hno : ∀ e ∈ oj.after, Region.binds md e = true → e.on ≠ i) :
    oi.apart ops oj = true ∧ (b2 = true → N j = true) := by
  simp only [freeOrd, hi, List.all_eq_true, List.mem_range] at h
  have h1 := h j (Array.getElem?_eq_some_iff.1 hj).1
  simp only [hj, Bool.or_eq_true, beq_iff_eq, hne, false_or, hun, Bool.false_eq_true, Bool.and_eq_true] at h1
  rcases h1 with h1 | h1
  · obtain ⟨e, he, hb⟩ := Array.any_eq_true'.1 h1
    simp only [Bool.and_eq_true, beq_iff_eq] at hb
    exact absurd hb.2 (hno e he hb.1)
  · refine ⟨h1.1, fun hb => ?_⟩
    rcases h1.2 with h2 | h2
    · rw [hb] at h2; cases h2
    · exact h2

theorem wpAnyN_take {i : Nat} {oi : Oper} {v : Value} {fuel : Nat} {listed : Array Bool} {a : Act} {w : World} (b2 : Bool) (hi : ops[i]? = some oi)
    (hs : Region.noSelect ops = true) (hf : freeOrd md ops N b2 listed i = true) (hr : (Region.ready md ops listed).contains i = true)
    (hQ : ∀ c a w, Q (.panic c) (a.put oi.dst v) w → Q (.panic c) a w) (hy : YieldsIf P ops (Leans S1 S2 b2) oi v a) (hS : Leans S1 S2 b2 w)
    (h : wpAnyN P md ops Q S1 S2 N fuel (listed.setIfInBounds i true) (a.put oi.dst v) w) : wpAnyN P md ops Q S1 S2 N (fuel + 1) listed a w :=
  wpAnyN_first hi (Region.noSelect_spec hs) hQ fuel listed a w (freeOrd_spec hi hf) (by simpa using hr) hy hS h

/-- One alone may come up. -/
theorem wpAnyN_step {i : Nat} {o : Oper} {fuel : Nat} {listed : Array Bool} {a : Act} {w : World} (hr : Region.ready md ops listed = [i]) (ho : ops[i]? = some o) (hw : Region.wanted o (yielded ops a.tmps) = true)
    (h : ∀ K' : Act → World → Prop, Shut (∀ a w', S1 w' → (N i = true → S2 w → S2 w') → wpAnyN P md ops Q S1 S2 N fuel (listed.setIfInBounds i true) a w' → K' a w') → Oper.wp P o a w K' Q) :
    wpAnyN P md ops Q S1 S2 N (fuel + 1) listed a w :=
  ⟨fun h0 => absurd (hr.symm.trans h0) (by intro e; cases e), fun j hj => by
    rw [hr] at hj
    obtain rfl := List.mem_singleton.1 hj
    exact wpOp_step ho (fun K' hK => by
      rw [if_pos hw]
      exact h K' (fun a w h1 h2 hW => hK a w ⟨⟨h1, h2⟩, hW⟩))⟩

theorem wpAnyN_done {listed : Array Bool} {a : Act} {w : World} (hr : Region.ready md ops listed = []) (h : Q .normal a w) : wpAnyN P md ops Q S1 S2 N 0 listed a w := ⟨hr, h⟩

/-- Two may come up. -/
theorem wpAnyN_two {i j : Nat} {oi oj : Oper} {fuel : Nat} {listed : Array Bool} {a : Act} {w : World} (hr : Region.ready md ops listed = [i, j]) (hi : ops[i]? = some oi) (hj : ops[j]? = some oj)
    (wi : Region.wanted oi (yielded ops a.tmps) = true) (wj : Region.wanted oj (yielded ops a.tmps) = true)
    (h1 : ∀ K' : Act → World → Prop, Shut (∀ a w', S1 w' → (N i = true → S2 w → S2 w') → wpAnyN P md ops Q S1 S2 N fuel (listed.setIfInBounds i true) a w' → K' a w') → Oper.wp P oi a w K' Q)
    (h2 : ∀ K' : Act → World → Prop, Shut (∀ a w', S1 w' → (N j = true → S2 w → S2 w') → wpAnyN P md ops Q S1 S2 N fuel (listed.setIfInBounds j true) a w' → K' a w') → Oper.wp P oj a w K' Q) :
    wpAnyN P md ops Q S1 S2 N (fuel + 1) listed a w :=
  ⟨fun h0 => absurd (hr.symm.trans h0) (by intro e; cases e), fun k hk => by
    rw [hr] at hk
    rcases List.mem_cons.1 hk with rfl | hk
    · exact wpOp_step hi (fun K' hK => by
        rw [if_pos wi]
        exact h1 K' (fun a w h1 h2 hW => hK a w ⟨⟨h1, h2⟩, hW⟩))
    · obtain rfl := List.mem_singleton.1 hk
      exact wpOp_step hj (fun K' hK => by
        rw [if_pos wj]
        exact h2 K' (fun a w h1 h2 hW => hK a w ⟨⟨h1, h2⟩, hW⟩))⟩

theorem wpOp_mono' {i : Nat} {K K' : Act → World → Prop} {a : Act} {w : World} (h : ∀ a w, K a w → K' a w) (hw : wpOp P ops Q i K a w) : wpOp P ops Q i K' a w := wpOp_mono h hw
/-- What is kept may be asked for more sharply from here on. -/
theorem wpAnyN_sharp {S1' : World → Prop} (h : ∀ w, S1' w → S1 w) : ∀ (fuel : Nat) (listed : Array Bool) (a : Act) (w : World), wpAnyN P md ops Q S1' S2 N fuel listed a w → wpAnyN P md ops Q S1 S2 N fuel listed a w
  | 0, _, _, _, hw => hw
  | fuel + 1, _, _, _, hw => ⟨hw.1, fun i hi => wpOp_mono (fun _ _ h' => ⟨⟨h _ h'.1.1, h'.1.2⟩, wpAnyN_sharp h fuel _ _ _ h'.2⟩) (hw.2 i hi)⟩

theorem wp_region_N {id : Nat} {a : Act} {w : World} (hm : P.follows .mixedOrders = true)
    (h : wpAnyN P .any ops Q S1 S2 N ops.size (Array.replicate ops.size false) a w.drew) : (Code.region id ops true).wp P Q a w :=
  wp_region_any hm (wpAny_of_N _ _ _ _ h)
end
end Go.Proofs.Ytkgkanmccaodfaa

/-
  Regions that draw their order: an operation taken first, ahead of whatever waits for it, be it through others.
  Conditions: none.
-/
set_option linter.unusedVariables false
namespace Go.Proofs.Ytkgkanmccaodfaa
open Go.RowKit

section
variable {P : Program} {md : Region.Mode} {ops : Array Oper} {Q : Exit → Act → World → Prop} {S1 S2 : World → Prop} {N : Nat → Bool}

/-- Operation i may be taken first: D waits for it, be it through others of D; every other one that has not come up is apart from it and keeps what it leans on. -/
theorem wpAnyN_firstD {i : Nat} {oi : Oper} {v : Value} {b2 : Bool} (D : Nat → Bool) (hi : ops[i]? = some oi) (hsel : ∀ (j : Nat) (o : Oper) cs b, ops[j]? = some o → o.op ≠ .select cs b)
    (hQ : ∀ c a w, Q (.panic c) (a.put oi.dst v) w → Q (.panic c) a w) (hD : ∀ j oj, ops[j]? = some oj → D j = true → ∃ e ∈ oj.after, Region.binds md e = true ∧ (e.on = i ∨ D e.on = true)) :
    ∀ (fuel : Nat) (listed : Array Bool) (a : Act) (w : World), (∀ j, D j = true → listed.getD j true = false) →
      (∀ j oj, ops[j]? = some oj → j ≠ i → listed.getD j true = false → D j = false → oi.apart ops oj = true ∧ (b2 = true → N j = true)) →
      i ∈ Region.ready md ops listed → YieldsIf P ops (Leans S1 S2 b2) oi v a → Leans S1 S2 b2 w →
      wpAnyN P md ops Q S1 S2 N fuel (listed.setIfInBounds i true) (a.put oi.dst v) w → wpAnyN P md ops Q S1 S2 N (fuel + 1) listed a w := by
  intro fuel
  induction fuel with
  | zero =>
    intro listed a w _ _ hr hy hS H
    refine ⟨fun h => (by rw [h] at hr; cases hr), fun j hj => ?_⟩
    by_cases hji : j = i
    · subst hji; exact hy.wpOp hi hS ⟨⟨hS.1, fun _ h => h⟩, H⟩
    · have := ready_mono hj hji
      rw [H.1] at this
      cases this
  | succ fuel ih =>
    intro listed a w hDl hfree hr hy hS H
    refine ⟨fun h => (by rw [h] at hr; cases hr), fun j hj => ?_⟩
    by_cases hji : j = i
    · subst hji; exact hy.wpOp hi hS ⟨⟨hS.1, fun _ h => h⟩, H⟩
    · have h1 := H.2 j (ready_mono hj hji)
      obtain ⟨hjun, oj, hoj, hall⟩ := mem_ready.1 hj
      have hno : ∀ k, listed.getD k true = false → ∀ e ∈ oj.after, Region.binds md e = true → e.on ≠ k := fun k h0 e he hb heq => by
        have h1 := hall e he hb
        rw [heq] at h1
        rcases Nat.lt_or_ge k listed.size with h' | h'
        · simp [h'] at h0 h1; rw [h0] at h1; cases h1
        · simp [Array.getElem?_eq_none h'] at h1
      have hDj : D j = false := by
        rw [← Bool.not_eq_true]
        intro hd
        obtain ⟨e, he, hb, h2⟩ := hD j oj hoj hd
        rcases h2 with h2 | h2
        · exact hno i (mem_ready.1 hr).1 e he hb h2
        · exact hno e.on (hDl e.on h2) e he hb rfl
      obtain ⟨hap, hN⟩ := hfree j oj hoj hji hjun hDj
      have h2 := wpOp_putIf hoj hap (fun cs b => hsel i oi cs b hi) (fun cs b => hsel j oj cs b hoj) hQ hy h1
      have hfree' : ∀ k ok, ops[k]? = some ok → k ≠ i → (listed.setIfInBounds j true).getD k true = false → D k = false → oi.apart ops ok = true ∧ (b2 = true → N k = true) := fun k ok hk hki hun hno => by
        refine hfree k ok hk hki ?_ hno
        by_cases hjk : j = k
        · subst hjk; exact hjun
        · rw [getD_set_ne true hjk] at hun; exact hun
      have hDl' : ∀ k, D k = true → (listed.setIfInBounds j true).getD k true = false := fun k hk => by
        by_cases hjk : j = k
        · subst hjk; rw [hDj] at hk; cases hk
        · rw [getD_set_ne true hjk]; exact hDl k hk
      refine wpOp_mono (fun a' w' h3 => ⟨h3.2.1, ih (listed.setIfInBounds j true) a' w' hDl' hfree' (ready_mono hr (Ne.symm hji)) h3.1 ⟨h3.2.1.1, fun hb => h3.2.1.2 (hN hb) (hS.2 hb)⟩ ?_⟩) h2
      rw [Array.setIfInBounds_comm _ _ hji]
      exact h3.2.2

def freeOrdD (md : Region.Mode) (ops : Array Oper) (N : Nat → Bool) (b2 : Bool) (D : List Nat) (listed : Array Bool) (i : Nat) : Bool :=
  match ops[i]? with
  | none => false
  | some oi => (D.all fun j => !listed.getD j true && match ops[j]? with
      | some oj => oj.after.any fun e => Region.binds md e && (e.on == i || D.contains e.on)
      | none => false) && (List.range ops.size).all fun j => j == i || listed.getD j true || D.contains j || match ops[j]? with
      | some oj => oi.apart ops oj && (!b2 || N j)
      | none => true

theorem wpAnyN_takeD {i : Nat} {oi : Oper} {v : Value} {fuel : Nat} {listed : Array Bool} {a : Act} {w : World} (b2 : Bool) (D : List Nat) (hi : ops[i]? = some oi)
    (hs : Region.noSelect ops = true) (hf : freeOrdD md ops N b2 D listed i = true) (hr : (Region.ready md ops listed).contains i = true)
    (hQ : ∀ c a w, Q (.panic c) (a.put oi.dst v) w → Q (.panic c) a w) (hy : YieldsIf P ops (Leans S1 S2 b2) oi v a) (hS : Leans S1 S2 b2 w)
    (h : wpAnyN P md ops Q S1 S2 N fuel (listed.setIfInBounds i true) (a.put oi.dst v) w) : wpAnyN P md ops Q S1 S2 N (fuel + 1) listed a w := by
  unfold freeOrdD at hf
  simp only [hi, Bool.and_eq_true, List.all_eq_true, List.mem_range] at hf
  obtain ⟨hf1, hf2⟩ := hf
  refine wpAnyN_firstD (fun j => D.contains j) hi (Region.noSelect_spec hs) hQ (fun j oj hj hd => ?_) fuel listed a w (fun j hd => ?_) (fun j oj hj hne hun hd => ?_) (by simpa using hr) hy hS h
  · have h1 := (hf1 j (by simpa using hd)).2
    simp only [hj] at h1
    obtain ⟨e, he, hb⟩ := Array.any_eq_true'.1 h1
    simp only [Bool.and_eq_true, Bool.or_eq_true, beq_iff_eq] at hb
    exact ⟨e, he, hb.1, hb.2⟩
  · have h1 := (hf1 j (by simpa using hd)).1
    simpa using h1
  · have h1 := hf2 j (Array.getElem?_eq_some_iff.1 hj).1
    simp only [hj, Bool.or_eq_true, beq_iff_eq, hne, false_or, hun, Bool.false_eq_true, Bool.and_eq_true] at h1
    rcases h1 with h1 | h1
    · rw [hd] at h1; cases h1
    · refine ⟨h1.1, fun hb => ?_⟩
      rcases h1.2 with h2 | h2
      · rw [hb] at h2; cases h2
      · exact h2
end
end Go.Proofs.Ytkgkanmccaodfaa
