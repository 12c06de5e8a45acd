/-
  rising of the program: a map's units, rising.
  Conditions: the map is of the call's own, of not too many units.
-/
import Derived.Test.YtincbilobmhgeaaM06
import Derived.Test.YtincbilobmhgeaaM03
import Derived.Test.YtincbilobmhgeaaM04
import Derived.Test.YtincbilobmhgeaaM05
import Derived.Shelf.AbstractIn

/-
  All is counted: what is free and what is shared out are the frames of all cores; cores of a right plan.
  Conditions: the plan is right.
-/
set_option linter.unusedVariables false
namespace Go.Proofs.Ytincbilobmhgeaa
open Go.RowKit

/-- A sum over the first k cores that are there. -/
def overC (m : Nat) (g : Nat → Int) : Nat → Int
  | 0 => 0
  | k + 1 => overC m g k + if m.testBit k = true then g k else 0
theorem overC_add (m : Nat) (g h : Nat → Int) : ∀ k : Nat, overC m (fun c => g c + h c) k = overC m g k + overC m h k
  | 0 => rfl
  | k + 1 => by
    rw [overC, overC, overC, overC_add m g h k]
    cases m.testBit k <;> simp <;> omega
theorem overC_congr {m : Nat} {g h : Nat → Int} : ∀ {k : Nat}, (∀ c, c < k → m.testBit c = true → g c = h c) → overC m g k = overC m h k
  | 0, _ => rfl
  | k + 1, e => by
    rw [overC, overC, overC_congr fun c hc hb => e c (by omega) hb]
    by_cases hb : m.testBit k = true
    · rw [if_pos hb, if_pos hb, e k (by omega) hb]
    · rw [if_neg hb, if_neg hb]
theorem overC_zero (m : Nat) : ∀ k : Nat, overC m (fun _ => 0) k = 0
  | 0 => rfl
  | k + 1 => by rw [overC, overC_zero m k]; simp
theorem overC_const (m : Nat) (f : Int) : ∀ k : Nat, overC m (fun _ => f) k = f * (cntT m k : Int)
  | 0 => by
    show (0 : Int) = f * ((0 : Nat) : Int)
    simp
  | k + 1 => by
    rw [overC, overC_const m f k, cntT_succ]
    cases m.testBit k
    · simp
    · simp [Int.mul_add]
theorem overC_one {m : Nat} {c0 : Nat} {s : Int} (hb : m.testBit c0 = true) : ∀ {k : Nat}, c0 < k → overC m (fun c => if (c0 : Int) = (c : Int) then s else 0) k = s
  | 0, h => absurd h (Nat.not_lt_zero _)
  | k + 1, h => by
    rw [overC]
    by_cases e : k = c0
    · subst e
      rw [if_pos hb, if_pos rfl, overC_congr (h := fun _ => 0) fun c hc _ => if_neg (by omega), overC_zero]
      omega
    · rw [if_neg (c := (c0 : Int) = (k : Int)) (by omega), overC_one hb (by omega)]
      simp

/-- A sum's first k, of ints that are counts. -/
theorem sumTo_cast_add (f g : Nat → Nat) (n : Nat) : ((sumTo (fun i => f i + g i) n : Nat) : Int) = (sumTo f n : Int) + (sumTo g n : Int) := by rw [sumTo_add]; omega
theorem nOn_cons (y : Pc) (q : List Pc) (c : Int) (t : Nat) : nOn (y :: q) c t = (onB c t y).toNat + nOn q c t := by
  rw [show y :: q = [y] ++ q from rfl, nOn_append]
  rw [show [y] = [] ++ [y] from rfl, nOn_snoc, nOn_nil, Nat.zero_add]
theorem nAny_cons (y : Pc) (q : List Pc) (t : Nat) : nAny (y :: q) t = (y.t.testBit t).toNat + nAny q t := by
  rw [show y :: q = [y] ++ q from rfl, nAny_append]
  rw [show [y] = [] ++ [y] from rfl, nAny_snoc, show nAny [] t = 0 from rfl, Nat.zero_add]

theorem sum_none (c : Int) : sumTo (nOn [] c) 64 = 0 := sumTo_zero fun _ _ => rfl
theorem over_pieces {m : Nat} : ∀ (q : List Pc), (∀ y ∈ q, hasC m y.c = true) → overC m (fun c => (sumTo (nOn q (c : Int)) 64 : Int)) 16 = (sumTo (nAny q) 64 : Int)
  | [], _ => by
    have e : ∀ c : Int, sumTo (nOn [] c) 64 = 0 := fun c => sumTo_zero fun _ _ => rfl
    have e2 : sumTo (nAny []) 64 = 0 := sumTo_zero fun _ _ => rfl
    rw [overC_congr (h := fun _ => 0) fun c _ _ => by simp [e], overC_zero, e2]
    rfl
  | y :: q, h => by
    have hy := h y (by simp)
    obtain ⟨r0, r1⟩ := hasC_range hy
    obtain ⟨c0, hc0⟩ := Int.eq_ofNat_of_zero_le r0
    have hc16 : c0 < 16 := by omega
    have hb : m.testBit c0 = true := by rw [hc0, hasC_nat hc16] at hy; exact hy
    have e1 : ∀ c : Nat, (sumTo (nOn (y :: q) (c : Int)) 64 : Int) = (if (c0 : Int) = (c : Int) then (sumTo (fun t => (y.t.testBit t).toNat) 64 : Int) else 0) + (sumTo (nOn q (c : Int)) 64 : Int) := fun c => by
      rw [sumTo_congr (g := fun t => (onB (c : Int) t y).toNat + nOn q (c : Int) t) fun t _ => nOn_cons y q _ t, sumTo_cast_add]
      congr 1
      by_cases e : (c0 : Int) = (c : Int)
      · rw [if_pos e]
        congr 1
        refine sumTo_congr fun t _ => ?_
        unfold onB
        rw [hc0, decide_eq_true e, Bool.true_and]
      · rw [if_neg e, sumTo_zero fun t _ => by
          unfold onB
          rw [hc0, decide_eq_false e, Bool.false_and]
          rfl]
        rfl
    rw [overC_congr fun c _ _ => e1 c, overC_add, overC_one hb hc16, over_pieces q fun z hz => h z (by simp [hz]),
      sumTo_congr (f := nAny (y :: q)) (g := fun t => (y.t.testBit t).toNat + nAny q t) fun t _ => nAny_cons y q t, sumTo_cast_add]
theorem wholesT_cons (x : Pl) (l : List Pl) (c : Int) : sumS (wholesT (x :: l) c) = (if wholeB c x = true then x.s else 0) + sumS (wholesT l c) := by
  unfold wholesT
  rw [List.filter_cons]
  by_cases h : wholeB c x = true
  · rw [if_pos h, if_pos h, List.map_cons, sumS]
  · rw [if_neg h, if_neg h]
    omega
/-- All that lies on a core. -/
def layN (l : List Pl) (c : Int) : Int := (sumTo (nOn (pcsOf l) c) 64 : Int) + sumS (wholesT l c)
theorem over_lay {f : Int} {m : Nat} : ∀ (l : List Pl), (∀ x ∈ l, PlaceOk f m x) → overC m (fun c => layN l (c : Int)) 16 = sumS (wantsT l)
  | [], _ => by
    rw [overC_congr (h := fun _ => 0) fun c _ _ => by
      show ((sumTo (nOn [] (c : Int)) 64 : Nat) : Int) + 0 = 0
      rw [sum_none]
      rfl, overC_zero]
    rfl
  | x :: l, h => by
    have hx := h x (by simp)
    have e : ∀ c : Nat, layN (x :: l) (c : Int) = ((sumTo (nOn x.ps (c : Int)) 64 : Int) + (if wholeB (c : Int) x = true then x.s else 0)) + layN l (c : Int) := fun c => by
      unfold layN
      rw [pcsOf_cons, wholesT_cons, sumTo_congr (f := nOn (x.ps ++ pcsOf l) (c : Int)) (g := fun t => nOn x.ps (c : Int) t + nOn (pcsOf l) (c : Int) t) fun t _ => nOn_append _ _ _ _, sumTo_cast_add]
      omega
    have ew : wantsT (x :: l) = (x.u, x.s) :: wantsT l := rfl
    rw [overC_congr fun c _ _ => e c, overC_add, over_lay l fun z hz => h z (by simp [hz]), ew, sumS]
    congr 1
    rw [overC_add]
    by_cases hp : x.ps = []
    · have hh := hx.whole hp
      obtain ⟨r0, r1⟩ := hasC_range hh
      obtain ⟨c0, hc0⟩ := Int.eq_ofNat_of_zero_le r0
      have hc16 : c0 < 16 := by omega
      have hb : m.testBit c0 = true := by rw [hc0, hasC_nat hc16] at hh; exact hh
      rw [overC_congr (h := fun _ => 0) (g := fun c => (sumTo (nOn x.ps (c : Int)) 64 : Int)) fun c _ _ => by
        show (sumTo (nOn x.ps (c : Int)) 64 : Int) = 0
        rw [hp, sum_none]
        rfl, overC_zero, Int.zero_add,
        overC_congr (h := fun c => if (c0 : Int) = (c : Int) then x.s else 0) fun c _ _ => ?_, overC_one hb hc16]
      have e1 : wholeB (c : Int) x = decide ((c0 : Int) = (c : Int)) := by
        unfold wholeB
        rw [hp, hc0]
        simp
      rw [e1]
      by_cases h1 : (c0 : Int) = (c : Int)
      · rw [decide_eq_true h1, if_pos rfl, if_pos h1]
      · rw [decide_eq_false h1, if_neg (by decide), if_neg h1]
    · have hs := hx.split hp
      rw [over_pieces x.ps (rise_has hs.rise), overC_congr (h := fun _ => 0) fun c _ _ => ?_, overC_zero, Int.add_zero]
      · exact hs.all
      · have : wholeB (c : Int) x = false := by
          unfold wholeB
          rw [decide_eq_false (fun h0 => hp (List.eq_nil_of_length_eq_zero h0)), Bool.false_and]
        rw [this]
        rfl
theorem free_over (f : Int) (m : Nat) (l : List Pl) : ∀ k : Nat, k ≤ 16 → freeT f m l k = overC m (fun c => f - loadN l (c : Int)) k
  | 0, _ => rfl
  | k + 1, h => by
    rw [freeT, overC, free_over f m l k (by omega)]
    congr 1
    unfold roomN
    rw [hasC_nat (by omega)]
/-- What is free, and what is shared out, are the frames of all cores. -/
theorem Right.all {f : Int} {m : Nat} {l : List Pl} (h : Right f m l) : freeT f m l 16 + sumS (wantsT l) = f * (coresN m : Int) := by
  have h1 : overC m (fun c => loadN l (c : Int)) 16 = sumS (wantsT l) := by
    rw [← over_lay l h.place]
    refine overC_congr fun c hc _ => ?_
    show loadN l (c : Int) = layN l (c : Int)
    unfold loadN layN
    rw [cnt_win (h.apart c hc)]
  have h2 := overC_add m (fun c => f - loadN l (c : Int)) (fun c => loadN l (c : Int)) 16
  rw [h1, ← free_over f m l 16 (Nat.le_refl _), overC_congr (h := fun _ => f) fun c _ _ => by omega, overC_const] at h2
  unfold coresN
  omega
theorem ticks_top {m : Nat} (h : m < 65536) : ticksI m 64 = ticksI m 16 := by
  have key : ∀ d : Nat, ticksI m (16 + d) = ticksI m 16 := by
    intro d
    induction d with
    | zero => rfl
    | succ d ih => rw [show 16 + (d + 1) = (16 + d) + 1 by omega, ticksI_no (bit16 h (by omega)), ih]
  exact key 48
end Go.Proofs.Ytincbilobmhgeaa

/-
  What two plans' places differ in: a unit's cores and windows are its core and its pieces.
  Conditions: none.
-/
set_option linter.unusedVariables false
namespace Go.Proofs.Ytincbilobmhgeaa

/-! ### A unit's cores and windows -/
/-- Has the unit the core? -/
def coreB (x : Pl) (c : Int) : Bool := if x.ps = [] then decide (x.c = c) else x.ps.any fun y => decide (y.c = c)
/-- Are the cores, or the windows, unlike? Core by core, tick by tick. -/
def movedB (x y : Pl) : Bool := (List.range 16).any fun c => (coreB x (c : Int) != coreB y (c : Int)) || (List.range 64).any fun t => nOn x.ps (c : Int) t != nOn y.ps (c : Int) t
theorem movedB_iff {x y : Pl} : movedB x y = true ↔ ∃ c : Nat, c < 16 ∧ (coreB x (c : Int) ≠ coreB y (c : Int) ∨ ∃ t, t < 64 ∧ nOn x.ps (c : Int) t ≠ nOn y.ps (c : Int) t) := by
  unfold movedB
  rw [List.any_eq_true]
  constructor
  · rintro ⟨c, hc, h⟩
    refine ⟨c, List.mem_range.1 hc, ?_⟩
    rw [Bool.or_eq_true] at h
    rcases h with h | h
    · exact .inl (by simpa using h)
    · rw [List.any_eq_true] at h
      obtain ⟨t, ht, h⟩ := h
      exact .inr ⟨t, List.mem_range.1 ht, by simpa using h⟩
  · rintro ⟨c, hc, h⟩
    refine ⟨c, List.mem_range.2 hc, ?_⟩
    rw [Bool.or_eq_true]
    rcases h with h | ⟨t, ht, h⟩
    · exact .inl (by simpa using h)
    · exact .inr (List.any_eq_true.2 ⟨t, List.mem_range.2 ht, by simpa using h⟩)
theorem rise_cores {m : Nat} : ∀ {l : List Pc} {last : Int}, Rise m last l → ∀ y ∈ l, last < y.c ∧ hasC m y.c = true ∧ y.t ≠ 0
  | [], _, _ => fun y hy => by cases hy
  | z :: l, last, h => fun y hy => by
    obtain ⟨h1, h2, h3, h4⟩ := h
    rcases List.mem_cons.1 hy with rfl | hy
    · exact ⟨h2, h1, h3⟩
    · obtain ⟨k1, k2, k3⟩ := rise_cores h4 y hy
      exact ⟨Int.lt_trans h2 k1, k2, k3⟩
theorem on_none {l : List Pc} {c : Int} {t : Nat} (h : ∀ y ∈ l, y.c ≠ c) : nOn l c t = 0 := by
  rcases Nat.eq_zero_or_pos (nOn l c t) with h0 | h0
  · exact h0
  · obtain ⟨y, hy, hc, _⟩ := nOn_pos.1 h0
    exact absurd hc (h y hy)
theorem mask_tick {x : Nat} (h : x ≠ 0) (hl : x < 18446744073709551616) : ∃ t, t < 64 ∧ x.testBit t = true := by
  obtain ⟨t, ht⟩ := Nat.exists_testBit_of_ne_zero h
  refine ⟨t, ?_, ht⟩
  rcases Nat.lt_or_ge t 64 with h1 | h1
  · exact h1
  · rw [bit_big hl h1] at ht
    cases ht
theorem hasC_lt {m : Nat} {c : Int} (h : hasC m c = true) : ∃ k : Nat, k < 16 ∧ c = (k : Int) := by
  obtain ⟨h1, h2⟩ := hasC_range h
  exact ⟨c.toNat, by omega, by omega⟩
/-- Pieces are told by their windows. -/
theorem rise_unique {m m' : Nat} : ∀ (l l' : List Pc) (last last' : Int), Rise m last l → Rise m' last' l' → (∀ y ∈ l, y.t < 18446744073709551616) → (∀ y ∈ l', y.t < 18446744073709551616) →
    (∀ c : Nat, c < 16 → ∀ t, t < 64 → nOn l (c : Int) t = nOn l' (c : Int) t) → l = l'
  | [], [], _, _, _, _, _, _, _ => rfl
  | [], z :: l', _, _, _, h', _, hm', he => by
    obtain ⟨h1, _, h3, _⟩ := h'
    obtain ⟨k, hk, hkc⟩ := hasC_lt h1
    obtain ⟨t, ht, hb⟩ := mask_tick h3 (hm' z (List.mem_cons.2 (.inl rfl)))
    have := he k hk t ht
    rw [nOn_nil] at this
    have : 0 < nOn (z :: l') (k : Int) t := nOn_pos.2 ⟨z, List.mem_cons.2 (.inl rfl), hkc, hb⟩
    omega
  | y :: l, [], _, _, h, _, hm, _, he => by
    obtain ⟨h1, _, h3, _⟩ := h
    obtain ⟨k, hk, hkc⟩ := hasC_lt h1
    obtain ⟨t, ht, hb⟩ := mask_tick h3 (hm y (List.mem_cons.2 (.inl rfl)))
    have := he k hk t ht
    rw [nOn_nil] at this
    have : 0 < nOn (y :: l) (k : Int) t := nOn_pos.2 ⟨y, List.mem_cons.2 (.inl rfl), hkc, hb⟩
    omega
  | y :: l, z :: l', _, _, h, h', hm, hm', he => by
    obtain ⟨h1, _, h3, h4⟩ := h
    obtain ⟨k1, _, k3, k4⟩ := h'
    have hy := rise_cores h4
    have hz := rise_cores k4
    have low : ∀ {m : Nat} {a b : Pc} {p q : List Pc}, hasC m a.c = true → a.t ≠ 0 → a.t < 18446744073709551616 → (∀ x ∈ q, b.c < x.c) → (∀ c : Nat, c < 16 → ∀ t, t < 64 → nOn (a :: p) (c : Int) t = nOn (b :: q) (c : Int) t) → ¬ a.c < b.c := by
      intro m a b p q g1 g3 gl gq ge hlt
      obtain ⟨k, hk, hkc⟩ := hasC_lt g1
      obtain ⟨t, ht, hb⟩ := mask_tick g3 gl
      have e1 := ge k hk t ht
      have e2 : 0 < nOn (a :: p) (k : Int) t := nOn_pos.2 ⟨a, List.mem_cons.2 (.inl rfl), hkc, hb⟩
      have e3 : nOn (b :: q) (k : Int) t = 0 := on_none fun x hx => by
        rcases List.mem_cons.1 hx with rfl | hx
        · omega
        · have := gq x hx
          omega
      omega
    have hyz : y.c = z.c := by
      have a1 := low h1 h3 (hm y (List.mem_cons.2 (.inl rfl))) (fun x hx => (hz x hx).1) he
      have a2 := low k1 k3 (hm' z (List.mem_cons.2 (.inl rfl))) (fun x hx => (hy x hx).1) fun c hc t ht => (he c hc t ht).symm
      omega
    obtain ⟨k, hk, hkc⟩ := hasC_lt h1
    have hbit : ∀ t, t < 64 → y.t.testBit t = z.t.testBit t := fun t ht => by
      have e1 := he k hk t ht
      rw [nOn_cons, nOn_cons, on_none (fun x hx => by have := (hy x hx).1; omega), on_none (fun x hx => by have := (hz x hx).1; omega)] at e1
      unfold onB at e1
      rw [decide_eq_true hkc, decide_eq_true (hyz.symm.trans hkc)] at e1
      cases h5 : y.t.testBit t <;> cases h6 : z.t.testBit t <;> rw [h5, h6] at e1 <;> first | rfl | exact absurd e1 (by decide)
    have ht : y.t = z.t := eq_of_bits (hm y (List.mem_cons.2 (.inl rfl))) (hm' z (List.mem_cons.2 (.inl rfl))) hbit
    have hyz' : y = z := Pc.ext' hyz ht
    subst hyz'
    rw [rise_unique l l' y.c y.c h4 k4 (fun x hx => hm x (List.mem_cons.2 (.inr hx))) (fun x hx => hm' x (List.mem_cons.2 (.inr hx))) fun c hc t ht => by
      have := he c hc t ht
      rw [nOn_cons, nOn_cons] at this
      omega]
/-- Moved are just those whose core or whose pieces are unlike. -/
theorem moved_iff {f f' : Int} {m m' : Nat} {x y : Pl} (hx : PlaceOk f m x) (hy : PlaceOk f' m' y) (ox : PlOk x) (oy : PlOk y) : movedB x y = true ↔ ¬ (x.c = y.c ∧ x.ps = y.ps) := by
  have two : ∀ {f : Int} {m : Nat} {z : Pl}, z.ps ≠ [] → PlaceOk f m z → ∀ d : Int, ∃ c : Nat, c < 16 ∧ coreB z (c : Int) = true ∧ (c : Int) ≠ d := by
    intro f m z hz hp d
    obtain ⟨_, h2, h3, _, _⟩ := hp.split hz
    match hps : z.ps, h2, h3 with
    | a :: b :: r, _, hr =>
      obtain ⟨g1, g2, g3, g4, g5, _⟩ := hr
      obtain ⟨i, hi, hie⟩ := hasC_lt g1
      obtain ⟨j, hj, hje⟩ := hasC_lt g4
      have hcb : ∀ w : Pc, w = a ∨ w = b → ∀ k : Nat, w.c = (k : Int) → coreB z (k : Int) = true := by
        intro w hw k hk
        unfold coreB
        rw [if_neg hz, hps, List.any_eq_true]
        refine ⟨w, ?_, decide_eq_true hk⟩
        rcases hw with rfl | rfl
        · exact List.mem_cons.2 (.inl rfl)
        · exact List.mem_cons.2 (.inr (List.mem_cons.2 (.inl rfl)))
      by_cases e : (i : Int) = d
      · exact ⟨j, hj, hcb b (.inr rfl) j hje, by omega⟩
      · exact ⟨i, hi, hcb a (.inl rfl) i hie, e⟩
  rw [movedB_iff]
  constructor
  · rintro ⟨c, hc, h⟩ ⟨h1, h2⟩
    rcases h with h | ⟨t, ht, h⟩
    · apply h
      unfold coreB
      rw [h1, h2]
    · exact h (by rw [h2])
  · intro hne
    by_cases h1 : x.ps = [] <;> by_cases h2 : y.ps = []
    · obtain ⟨c, hc, hce⟩ := hasC_lt (hx.whole h1)
      refine ⟨c, hc, .inl ?_⟩
      have : x.c ≠ y.c := fun e => hne ⟨e, by rw [h1, h2]⟩
      unfold coreB
      rw [if_pos h1, if_pos h2, decide_eq_true hce, decide_eq_false fun e => this (by omega)]
      decide
    · obtain ⟨c, hc, hcb, hcd⟩ := two h2 hy x.c
      refine ⟨c, hc, .inl ?_⟩
      rw [hcb]
      unfold coreB
      rw [if_pos h1, decide_eq_false fun e => hcd e.symm]
      decide
    · obtain ⟨c, hc, hcb, hcd⟩ := two h1 hx y.c
      refine ⟨c, hc, .inl ?_⟩
      rw [hcb]
      unfold coreB
      rw [if_pos h2, decide_eq_false fun e => hcd e.symm]
      decide
    · refine Classical.byContradiction fun hno => hne ⟨by rw [(hx.split h1).core, (hy.split h2).core], ?_⟩
      refine rise_unique x.ps y.ps _ _ (hx.split h1).rise (hy.split h2).rise (fun z hz => (ox.2.2.2 z hz).2) (fun z hz => (oy.2.2.2 z hz).2) fun c hc t ht => ?_
      exact Classical.byContradiction fun h => hno ⟨c, hc, .inr ⟨t, ht, h⟩⟩

/-! ### Who is in both, and how -/
def placeU (l : List Pl) (u : Int) : Pl := (findU l u).getD zeroPl
def inU (l : List Pl) (u : Int) : Bool := (findU l u).isSome
/-- 0 moved, 1 came, 2 gone, 3 of another share, else: of another place. -/
def kindB (k : Nat) (la lb : List Pl) (u : Int) : Bool := match k with
  | 0 => inU la u && inU lb u && movedB (placeU la u) (placeU lb u)
  | 1 => !inU la u
  | 2 => !inU lb u
  | 3 => inU la u && inU lb u && decide ((placeU la u).s ≠ (placeU lb u).s)
  | _ => !decide (placeU la u = placeU lb u)
def allU : List Int := (List.range 1040).map fun i => ((i + 1 : Nat) : Int)
def unitsU (la lb : List Pl) : List Int := allU.filter fun u => inU la u || inU lb u
def listU (k : Nat) (la lb : List Pl) : List Int := (unitsU la lb).filter (kindB k la lb)
def Up (l : List Int) : Prop := l.Pairwise (· < ·)
theorem allU_up : Up allU := by
  unfold Up allU
  rw [List.pairwise_map]
  refine List.Pairwise.imp ?_ (List.pairwise_lt_range (n := 1040))
  intro a b h
  omega
theorem mem_allU {u : Int} : u ∈ allU ↔ 1 ≤ u ∧ u ≤ 1040 := by
  unfold allU
  rw [List.mem_map]
  constructor
  · rintro ⟨i, hi, rfl⟩
    have := List.mem_range.1 hi
    omega
  · rintro ⟨h1, h2⟩
    exact ⟨(u - 1).toNat, List.mem_range.2 (by omega), by omega⟩
theorem Up.unique : ∀ {l l' : List Int}, Up l → Up l' → (∀ u, u ∈ l ↔ u ∈ l') → l = l'
  | [], [], _, _, _ => rfl
  | [], z :: l', _, _, h => absurd ((h z).2 (List.mem_cons.2 (.inl rfl))) (by simp)
  | y :: l, [], _, _, h => absurd ((h y).1 (List.mem_cons.2 (.inl rfl))) (by simp)
  | y :: l, z :: l', h, h', he => by
    have h1 := List.pairwise_cons.1 h
    have h2 := List.pairwise_cons.1 h'
    have hyz : y = z := by
      rcases List.mem_cons.1 ((he y).1 (List.mem_cons.2 (.inl rfl))) with e | e
      · exact e
      · rcases List.mem_cons.1 ((he z).2 (List.mem_cons.2 (.inl rfl))) with e2 | e2
        · exact e2.symm
        · have a1 := h2.1 y e
          have a2 := h1.1 z e2
          omega
    subst hyz
    rw [Up.unique h1.2 h2.2 fun u => by
      have := he u
      rw [List.mem_cons, List.mem_cons] at this
      constructor
      · intro hu
        rcases this.1 (.inr hu) with e | e
        · have := h1.1 u hu
          omega
        · exact e
      · intro hu
        rcases this.2 (.inr hu) with e | e
        · have := h2.1 u hu
          omega
        · exact e]
theorem listU_up (k : Nat) (la lb : List Pl) : Up (listU k la lb) := (allU_up.filter _).filter _
theorem mem_listU {k : Nat} {la lb : List Pl} {u : Int} : u ∈ listU k la lb ↔ (1 ≤ u ∧ u ≤ 1040) ∧ (inU la u = true ∨ inU lb u = true) ∧ kindB k la lb u = true := by
  unfold listU unitsU
  rw [List.mem_filter, List.mem_filter, mem_allU, Bool.or_eq_true, and_assoc]
/-- The units that change, told otherwise. -/
theorem listU_is {k : Nat} {la lb : List Pl} {l : List Int} (hl : Up l) (h : ∀ u, u ∈ l ↔ (1 ≤ u ∧ u ≤ 1040) ∧ (inU la u = true ∨ inU lb u = true) ∧ kindB k la lb u = true) : l = listU k la lb := hl.unique (listU_up k la lb) fun u => by rw [h, mem_listU]

/-! ### The ticks of windows that change -/
def shiftU (x y : Pl) : Nat := sumTo (fun c => sumTo (fun t => (nOn x.ps (c : Int) t != nOn y.ps (c : Int) t).toNat) 64) 16
def shiftT (la lb : List Pl) : Nat := ((unitsU la lb).map fun u => shiftU (placeU la u) (placeU lb u)).sum
set_option maxRecDepth 100000 in
theorem shiftU_comm (x y : Pl) : shiftU x y = shiftU y x := by
  unfold shiftU
  refine sumTo_congr fun c _ => ?_
  refine sumTo_congr fun t _ => ?_
  rw [bne_comm]
theorem unitsU_comm (la lb : List Pl) : unitsU la lb = unitsU lb la := by
  unfold unitsU
  exact List.filter_congr fun u _ => Bool.or_comm _ _
theorem shiftT_comm (la lb : List Pl) : shiftT la lb = shiftT lb la := by
  have h : (fun u => shiftU (placeU la u) (placeU lb u)) = fun u => shiftU (placeU lb u) (placeU la u) := funext fun u => shiftU_comm _ _
  unfold shiftT
  rw [unitsU_comm, h]
set_option maxRecDepth 100000 in
theorem shiftU_self (x : Pl) : shiftU x x = 0 := by
  unfold shiftU
  refine sumTo_zero fun c _ => ?_
  refine sumTo_zero fun t _ => ?_
  rw [bne_self_eq_false]
  rfl
end Go.Proofs.Ytincbilobmhgeaa

/-
  rising of the program: a map's units, rising.
  Conditions: the map is of the call's own, of not too many units.
-/
set_option linter.unusedVariables false
set_option linter.unusedSimpArgs false
namespace Go.Proofs.Ytincbilobmhgeaa
open Go.RowKit Go.Maps Go.Sort Go.Shelf

theorem sortsA (m : Nat) : AnyZI.SortsIn Try.prog Try.sortedA_ren Fence.wide m :=
  ⟨fun blk off cap ss W hH hblk hsz => callsIn_wide.2 (AnyM.slices_Sort_int Try.sortA blk off cap ss W hH hblk hsz),
   fun p cap W => callsIn_wide.2 (AnyM.slices_Sort_int_none Try.sortA p cap W)⟩

set_option maxHeartbeats 1000000 in
theorem rising_raw (b nn : Nat) (D0 : DataW Value) (w : World) (hown : Own22 w b nn D0) (hmax : Maps.size D0 ≤ maxLen) (hbytes : Maps.size D0 * 8 ≤ 140737488355328) :
    Calls Try.prog 38 #[.map (some b)] w fun e w' => ∃ (v : Value) (ss : List Int), e = .returned v ∧ ss.Perm (intKeys D0) ∧
      w'.ownsRow w.heap.size 3 1 v ss.length ((ss.mergeSort (fun x y => decide (x ≤ y))).map encZ) ∧ (v = .slice none 0 0 ↔ ss = []) ∧ Below w.heap.size w w' := by
  refine (callsIn_wide (n := 6)).1 ?_
  have hbl := hown.lt
  have hseq : SeqGives Fence.wide 2 Try.prog 65 #[.pointer (some ⟨w.heap.size, 0, none⟩)] encZ (fun ss => ss.Perm (intKeys D0)) (Maps.size D0) (w.alloc (.cells #[.map (some b)] 57)) :=
    AnyZI.keys_gives (ρ := Try.keysA_ren) { Try.keysA with } Fence.wide _ trivial rfl (by omega) w.heap.size b nn D0 _ (by simp) (by simp) (by
      obtain ⟨es, clock, hb, Ft, hs, hD⟩ := hown
      exact ⟨es, clock, (Below.heap_alloc _ _ b hbl).trans hb, Ft, hs, hD⟩)
  have cK : ∀ mb W, CallsIn Fence.wide 5 Try.prog 54 #[.map mb] W fun e w' => e = .returned (.func (.func 65) #[] #[.pointer (some ⟨W.heap.size, 0, none⟩)]) ∧ w' = W.alloc (.cells #[.map mb] 57) := fun mb W => AnyZI.keys_in Try.keysA Fence.wide 5 trivial rfl mb W
  have cS := AnyZI.sorted_in Try.sortedA Fence.wide 5 trivial trivial trivial trivial rfl (by omega) (sortsA _) (enters_of Try.func64 (by kernel_rfl) rfl) 65 #[.pointer (some ⟨w.heap.size, 0, none⟩)] trivial (enters_of Try.func65 (by kernel_rfl) rfl) _ _ hmax hbytes _ hseq
  change CallsIn _ _ Try.prog 53 _ _ _ at cS
  have hfK : Fence.wide.fn 54 := trivial
  have hfS : Fence.wide.fn 53 := trivial
  refine callsIn_of_wp Try.func38 rfl trivial ?_ rfl
  simp only [Try.ntmps38, List.size_toArray, List.length_cons, List.length_nil, Nat.reduceAdd, Nat.reduceSub, Array.replicate_succ, Array.replicate_zero, List.push_toArray, List.append_toArray, List.nil_append, List.cons_append]
  gi_wp2_with (first
    | (gi_at_call 54; refine (cK _ _).mono ?_; rintro e w' ⟨rfl, rfl⟩)
    | (gi_at_call 53; refine cS.mono ?_; rintro e w' ⟨v, ss, rfl, hS, hrow, hnil, hb⟩))
  go_ret
  exact ⟨v, ss, rfl, hS, ownsRow_base_a hrow (by simp), hnil, ((Below.refl _ w).alloc (Nat.le_refl _) _).trans (hb.mono (by simp))⟩

theorem up_of_sorted {l : List Int} (h : l.Pairwise fun a b => decide (a ≤ b) = true) (hn : l.Nodup) : Up l := by
  refine (h.and hn).imp ?_
  rintro a b ⟨h1, h2⟩
  have := of_decide_eq_true h1
  omega
/-- What a call answers that tells a map's units. -/
def RetUp (N : Nat) (F : Int → Option Pl) (w : World) (e : Ending) (w9 : World) : Prop := ∃ v xs, e = .returned v ∧ Up xs ∧ (∀ u, u ∈ xs ↔ (F u).isSome = true) ∧ (∀ u ∈ xs, -9223372036854775808 ≤ u ∧ u ≤ 9223372036854775807) ∧ xs.length ≤ N ∧ IntsAt w9 v xs ∧ (∀ k, v.ownBlock = some k → w.heap.size ≤ k) ∧ Below w.heap.size w w9
theorem rising_any (mb N : Nat) (F : Int → Option Pl) (w : World) (h : MapX w mb N F) (hN : N ≤ 1000000) : Calls Try.prog 38 #[.map (some mb)] w (RetUp N F w) := by
  obtain ⟨V, D, h⟩ := h
  have hsz := h.own.size_le
  obtain ⟨k1, k2, k3⟩ := keys_facts h.own
  refine (rising_raw mb N D w h.own (by unfold maxLen; omega) (by omega)).mono ?_
  rintro e w9 ⟨v, ss, rfl, hp, hrow, _, hb⟩
  have hq := (List.mergeSort_perm ss (fun x y => decide (x ≤ y))).trans hp
  have tr : ∀ a b c : Int, decide (a ≤ b) = true → decide (b ≤ c) = true → decide (a ≤ c) = true := fun a b c h1 h2 => by simp only [decide_eq_true_eq] at *; exact Int.le_trans h1 h2
  have ttl : ∀ a b : Int, (decide (a ≤ b) || decide (b ≤ a)) = true := fun a b => by simp only [Bool.or_eq_true, decide_eq_true_eq]; exact Int.le_total a b
  have hlen : (ss.mergeSort (fun x y => decide (x ≤ y))).length ≤ N := by
    rw [hq.length_eq]
    obtain ⟨es, hD, _, _⟩ := h.own.entries keyedInt
    subst hD
    show (es.map _).length ≤ N
    rw [List.length_map]
    exact hsz
  refine ⟨v, _, rfl, up_of_sorted (List.pairwise_mergeSort tr ttl ss) (hq.nodup_iff.2 k1), fun u => ?_, fun u hu => k3 u (hq.mem_iff.1 hu), hlen, ?_, own_base4 hrow, hb⟩
  · rw [hq.mem_iff, k2, h.has_]
  · exact ints_of_own (xs := ss.mergeSort (fun x y => decide (x ≤ y))) (by rw [List.length_mergeSort]; exact hrow) (by omega)
end Go.Proofs.Ytincbilobmhgeaa
