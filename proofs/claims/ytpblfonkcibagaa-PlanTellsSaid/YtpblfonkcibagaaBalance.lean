/-
  All is counted: what is free and what is shared out are the frames of all cores; cores of a right plan.
  Conditions: the plan is right.
-/
import Derived.Test.YtpblfonkcibagaaLoads
import Derived.Test.YtpblfonkcibagaaLists
set_option linter.unusedVariables false
namespace Go.Proofs.Ytpblfonkcibagaa
open Go.RowKit

/-- A sum over the first k cores that are there. -/
def overC (m : Nat) (g : Nat → Int) : Nat → Int
  | 0 => 0
  | k + 1 => overC m g k + if m.testBit k = true then g k else 0
theorem overC_add (m : Nat) (g h : Nat → Int) : ∀ k : Nat, overC m (fun c => g c + h c) k = overC m g k + overC m h k
  | 0 => rfl
  | k + 1 => by
    rw [overC, overC, overC, overC_add m g h k]
    cases m.testBit k <;> simp <;> omega
theorem overC_congr {m : Nat} {g h : Nat → Int} : ∀ {k : Nat}, (∀ c, c < k → m.testBit c = true → g c = h c) → overC m g k = overC m h k
  | 0, _ => rfl
  | k + 1, e => by
    rw [overC, overC, overC_congr fun c hc hb => e c (by omega) hb]
    by_cases hb : m.testBit k = true
    · rw [if_pos hb, if_pos hb, e k (by omega) hb]
    · rw [if_neg hb, if_neg hb]
theorem overC_zero (m : Nat) : ∀ k : Nat, overC m (fun _ => 0) k = 0
  | 0 => rfl
  | k + 1 => by rw [overC, overC_zero m k]; simp
theorem overC_const (m : Nat) (f : Int) : ∀ k : Nat, overC m (fun _ => f) k = f * (cntT m k : Int)
  | 0 => by
    show (0 : Int) = f * ((0 : Nat) : Int)
    simp
  | k + 1 => by
    rw [overC, overC_const m f k, cntT_succ]
    cases m.testBit k
    · simp
    · simp [Int.mul_add]
theorem overC_one {m : Nat} {c0 : Nat} {s : Int} (hb : m.testBit c0 = true) : ∀ {k : Nat}, c0 < k → overC m (fun c => if (c0 : Int) = (c : Int) then s else 0) k = s
  | 0, h => absurd h (Nat.not_lt_zero _)
  | k + 1, h => by
    rw [overC]
    by_cases e : k = c0
    · subst e
      rw [if_pos hb, if_pos rfl, overC_congr (h := fun _ => 0) fun c hc _ => if_neg (by omega), overC_zero]
      omega
    · rw [if_neg (c := (c0 : Int) = (k : Int)) (by omega), overC_one hb (by omega)]
      simp

/-- A sum's first k, of ints that are counts. -/
theorem sumTo_cast_add (f g : Nat → Nat) (n : Nat) : ((sumTo (fun i => f i + g i) n : Nat) : Int) = (sumTo f n : Int) + (sumTo g n : Int) := by rw [sumTo_add]; omega
theorem nOn_cons (y : Pc) (q : List Pc) (c : Int) (t : Nat) : nOn (y :: q) c t = (onB c t y).toNat + nOn q c t := by
  rw [show y :: q = [y] ++ q from rfl, nOn_append]
  rw [show [y] = [] ++ [y] from rfl, nOn_snoc, nOn_nil, Nat.zero_add]
theorem nAny_cons (y : Pc) (q : List Pc) (t : Nat) : nAny (y :: q) t = (y.t.testBit t).toNat + nAny q t := by
  rw [show y :: q = [y] ++ q from rfl, nAny_append]
  rw [show [y] = [] ++ [y] from rfl, nAny_snoc, show nAny [] t = 0 from rfl, Nat.zero_add]

theorem sum_none (c : Int) : sumTo (nOn [] c) 64 = 0 := sumTo_zero fun _ _ => rfl
theorem over_pieces {m : Nat} : ∀ (q : List Pc), (∀ y ∈ q, hasC m y.c = true) → overC m (fun c => (sumTo (nOn q (c : Int)) 64 : Int)) 16 = (sumTo (nAny q) 64 : Int)
  | [], _ => by
    have e : ∀ c : Int, sumTo (nOn [] c) 64 = 0 := fun c => sumTo_zero fun _ _ => rfl
    have e2 : sumTo (nAny []) 64 = 0 := sumTo_zero fun _ _ => rfl
    rw [overC_congr (h := fun _ => 0) fun c _ _ => by simp [e], overC_zero, e2]
    rfl
  | y :: q, h => by
    have hy := h y (by simp)
    obtain ⟨r0, r1⟩ := hasC_range hy
    obtain ⟨c0, hc0⟩ := Int.eq_ofNat_of_zero_le r0
    have hc16 : c0 < 16 := by omega
    have hb : m.testBit c0 = true := by rw [hc0, hasC_nat hc16] at hy; exact hy
    have e1 : ∀ c : Nat, (sumTo (nOn (y :: q) (c : Int)) 64 : Int) = (if (c0 : Int) = (c : Int) then (sumTo (fun t => (y.t.testBit t).toNat) 64 : Int) else 0) + (sumTo (nOn q (c : Int)) 64 : Int) := fun c => by
      rw [sumTo_congr (g := fun t => (onB (c : Int) t y).toNat + nOn q (c : Int) t) fun t _ => nOn_cons y q _ t, sumTo_cast_add]
      congr 1
      by_cases e : (c0 : Int) = (c : Int)
      · rw [if_pos e]
        congr 1
        refine sumTo_congr fun t _ => ?_
        unfold onB
        rw [hc0, decide_eq_true e, Bool.true_and]
      · rw [if_neg e, sumTo_zero fun t _ => by
          unfold onB
          rw [hc0, decide_eq_false e, Bool.false_and]
          rfl]
        rfl
    rw [overC_congr fun c _ _ => e1 c, overC_add, overC_one hb hc16, over_pieces q fun z hz => h z (by simp [hz]),
      sumTo_congr (f := nAny (y :: q)) (g := fun t => (y.t.testBit t).toNat + nAny q t) fun t _ => nAny_cons y q t, sumTo_cast_add]
theorem wholesT_cons (x : Pl) (l : List Pl) (c : Int) : sumS (wholesT (x :: l) c) = (if wholeB c x = true then x.s else 0) + sumS (wholesT l c) := by
  unfold wholesT
  rw [List.filter_cons]
  by_cases h : wholeB c x = true
  · rw [if_pos h, if_pos h, List.map_cons, sumS]
  · rw [if_neg h, if_neg h]
    omega
/-- All that lies on a core. -/
def layN (l : List Pl) (c : Int) : Int := (sumTo (nOn (pcsOf l) c) 64 : Int) + sumS (wholesT l c)
theorem over_lay {f : Int} {m : Nat} : ∀ (l : List Pl), (∀ x ∈ l, PlaceOk f m x) → overC m (fun c => layN l (c : Int)) 16 = sumS (wantsT l)
  | [], _ => by
    rw [overC_congr (h := fun _ => 0) fun c _ _ => by
      show ((sumTo (nOn [] (c : Int)) 64 : Nat) : Int) + 0 = 0
      rw [sum_none]
      rfl, overC_zero]
    rfl
  | x :: l, h => by
    have hx := h x (by simp)
    have e : ∀ c : Nat, layN (x :: l) (c : Int) = ((sumTo (nOn x.ps (c : Int)) 64 : Int) + (if wholeB (c : Int) x = true then x.s else 0)) + layN l (c : Int) := fun c => by
      unfold layN
      rw [pcsOf_cons, wholesT_cons, sumTo_congr (f := nOn (x.ps ++ pcsOf l) (c : Int)) (g := fun t => nOn x.ps (c : Int) t + nOn (pcsOf l) (c : Int) t) fun t _ => nOn_append _ _ _ _, sumTo_cast_add]
      omega
    have ew : wantsT (x :: l) = (x.u, x.s) :: wantsT l := rfl
    rw [overC_congr fun c _ _ => e c, overC_add, over_lay l fun z hz => h z (by simp [hz]), ew, sumS]
    congr 1
    rw [overC_add]
    by_cases hp : x.ps = []
    · have hh := hx.whole hp
      obtain ⟨r0, r1⟩ := hasC_range hh
      obtain ⟨c0, hc0⟩ := Int.eq_ofNat_of_zero_le r0
      have hc16 : c0 < 16 := by omega
      have hb : m.testBit c0 = true := by rw [hc0, hasC_nat hc16] at hh; exact hh
      rw [overC_congr (h := fun _ => 0) (g := fun c => (sumTo (nOn x.ps (c : Int)) 64 : Int)) fun c _ _ => by
        show (sumTo (nOn x.ps (c : Int)) 64 : Int) = 0
        rw [hp, sum_none]
        rfl, overC_zero, Int.zero_add,
        overC_congr (h := fun c => if (c0 : Int) = (c : Int) then x.s else 0) fun c _ _ => ?_, overC_one hb hc16]
      have e1 : wholeB (c : Int) x = decide ((c0 : Int) = (c : Int)) := by
        unfold wholeB
        rw [hp, hc0]
        simp
      rw [e1]
      by_cases h1 : (c0 : Int) = (c : Int)
      · rw [decide_eq_true h1, if_pos rfl, if_pos h1]
      · rw [decide_eq_false h1, if_neg (by decide), if_neg h1]
    · have hs := hx.split hp
      rw [over_pieces x.ps (rise_has hs.rise), overC_congr (h := fun _ => 0) fun c _ _ => ?_, overC_zero, Int.add_zero]
      · exact hs.all
      · have : wholeB (c : Int) x = false := by
          unfold wholeB
          rw [decide_eq_false (fun h0 => hp (List.eq_nil_of_length_eq_zero h0)), Bool.false_and]
        rw [this]
        rfl
theorem free_over (f : Int) (m : Nat) (l : List Pl) : ∀ k : Nat, k ≤ 16 → freeT f m l k = overC m (fun c => f - loadN l (c : Int)) k
  | 0, _ => rfl
  | k + 1, h => by
    rw [freeT, overC, free_over f m l k (by omega)]
    congr 1
    unfold roomN
    rw [hasC_nat (by omega)]
/-- What is free, and what is shared out, are the frames of all cores. -/
theorem Right.all {f : Int} {m : Nat} {l : List Pl} (h : Right f m l) : freeT f m l 16 + sumS (wantsT l) = f * (coresN m : Int) := by
  have h1 : overC m (fun c => loadN l (c : Int)) 16 = sumS (wantsT l) := by
    rw [← over_lay l h.place]
    refine overC_congr fun c hc _ => ?_
    show loadN l (c : Int) = layN l (c : Int)
    unfold loadN layN
    rw [cnt_win (h.apart c hc)]
  have h2 := overC_add m (fun c => f - loadN l (c : Int)) (fun c => loadN l (c : Int)) 16
  rw [h1, ← free_over f m l 16 (Nat.le_refl _), overC_congr (h := fun _ => f) fun c _ _ => by omega, overC_const] at h2
  unfold coresN
  omega
theorem ticks_top {m : Nat} (h : m < 65536) : ticksI m 64 = ticksI m 16 := by
  have key : ∀ d : Nat, ticksI m (16 + d) = ticksI m 16 := by
    intro d
    induction d with
    | zero => rfl
    | succ d ih => rw [show 16 + (d + 1) = (16 + d) + 1 by omega, ticksI_no (bit16 h (by omega)), ih]
  exact key 48
end Go.Proofs.Ytpblfonkcibagaa
