/-
  The law MaskRuns: it returns true for any set, and writes nothing that was there.
  Conditions: the numbers are of their kinds; the table of math/bits is as start-up lays it.
-/
import Derived.Test.YtnigoojjbljibaaDoorAwake
set_option linter.unusedVariables false
namespace Go.Proofs.YtnigoojjbljibaaDoor
open Go.RowKit

theorem start_more {m b : Nat} (hbd : b = 0 ∨ m.testBit b = false) : ∀ j, b ≤ j → j < 64 → m.testBit j = true → cntT (startN m) b + 1 ≤ cntT (startN m) (j + 1) := by
  intro j
  induction j with
  | zero =>
    intro h1 h2 h3
    have hb0 : b = 0 := by omega
    subst hb0
    have : (startN m).testBit 0 = true := by rw [startN_bit (by omega)]; unfold stB; rw [h3]; rfl
    rw [cntT_succ, this, cntT_zero]
    decide
  | succ j ih =>
    intro h1 h2 h3
    by_cases hs : stB m (j + 1) = true
    · have : (startN m).testBit (j + 1) = true := by rw [startN_bit h2]; exact hs
      rw [cntT_succ, this]
      have := cntT_mono (startN m) h1
      simp
      omega
    · have hp : m.testBit j = true := by
        unfold stB at hs
        rw [h3] at hs
        simpa using hs
      have hbj : b ≤ j := by
        rcases Nat.lt_or_ge j b with h | h
        · have : b = j + 1 := by omega
          subst this
          rcases hbd with h4 | h4
          · omega
          · rw [h4] at h3; cases h3
        · exact h
      have := ih hbj (by omega) hp
      have := cntT_mono (startN m) (show j + 1 ≤ j + 1 + 1 by omega)
      omega
theorem start_same {m a e i : Nat} (he : IsEnd m a e) (ha : stB m a = true) (hi : cntT (startN m) a = i) (h64 : e ≤ 64) : ∀ j, a ≤ j → j < e → cntT (startN m) (j + 1) = i + 1 := by
  intro j
  induction j with
  | zero =>
    intro h1 h2
    have : a = 0 := by omega
    subst this
    have : (startN m).testBit 0 = true := by rw [startN_bit (by omega)]; exact ha
    rw [cntT_succ, this, hi]; rfl
  | succ j ih =>
    intro h1 h2
    rcases Nat.lt_or_ge j a with h | h
    · have : a = j + 1 := by omega
      subst this
      have : (startN m).testBit (j + 1) = true := by rw [startN_bit (by omega)]; exact ha
      rw [cntT_succ, this, hi]; rfl
    · have hb := he.all j h (by omega)
      have : (startN m).testBit (j + 1) = false := by
        rw [startN_bit (by omega)]
        unfold stB
        simp [hb]
      rw [cntT_succ, this, ih h (by omega)]
      rfl

/-- A run at its place. -/
structure RunAt (m i a e : Nat) : Prop where
  st : stB m a = true
  is : cntT (startN m) a = i
  en : IsEnd m a e
  lt : a < e
  e64 : e ≤ 64
theorem runs_at {m i : Nat} {p : Nat × Nat} (hm : m < 18446744073709551616) (h : (runsT m 64)[i]? = some p) : RunAt m i p.1 p.2 := by
  unfold runsT at h
  rw [List.getElem?_map] at h
  obtain ⟨a, ha, rfl⟩ := Option.map_eq_some_iff.1 h
  obtain ⟨h1, h2, h3⟩ := (tickT_iff (startN m) 64 i a).1 ha
  rw [startN_bit h1] at h2
  have he := endN_is hm h1
  refine ⟨h2, h3, he, ?_, he.le64 hm (by omega)⟩
  show a < endN m a
  rcases Nat.lt_or_ge a (endN m a) with h | h
  · exact h
  · have e : endN m a = a := Nat.le_antisymm h he.le
    have := he.out
    rw [e, stB_bit h2] at this
    cases this
theorem run_apart {m i a e a' e' : Nat} (h : RunAt m (i + 1) a e) (h' : RunAt m i a' e') : e' < a := by
  have haa : a' < a := by
    rcases Nat.lt_or_ge a' a with h1 | h1
    · exact h1
    · have := cntT_mono (startN m) h1
      rw [h.is, h'.is] at this
      omega
  rcases Nat.lt_trichotomy a e' with h1 | h1 | h1
  · obtain ⟨b, rfl⟩ : ∃ b, a = b + 1 := ⟨a - 1, by omega⟩
    have := stB_pred h.st
    rw [h'.en.all b (by omega) (by omega)] at this
    cases this
  · have := h'.en.out
    rw [← h1, stB_bit h.st] at this
    cases this
  · exact h1

def outN (m i : Nat) : Nat := setP (fun j => m.testBit j && decide (cntT (startN m) (j + 1) ≤ i))
def inN (m i a t : Nat) : Nat := setP (fun j => m.testBit j && (decide (cntT (startN m) (j + 1) ≤ i) || decide (a ≤ j ∧ j < t)))
theorem outN_zero (m : Nat) : outN m 0 = 0 := setP_zero (fun j hj => by
  cases hb : m.testBit j
  · rfl
  · have := start_more (m := m) (b := 0) (.inl rfl) j (by omega) hj hb
    simp; omega)
theorem outN_all {m i : Nat} (hm : m < 18446744073709551616) (h : cntT (startN m) 64 ≤ i) : outN m i = m := by
  symm
  refine eq_setP hm (fun j hj => ?_)
  have := cntT_mono (startN m) (show j + 1 ≤ 64 by omega)
  have h2 : cntT (startN m) (j + 1) ≤ i := by omega
  simp [h2]
theorem inN_zero (m i a : Nat) : inN m i a a = outN m i := setP_congr (fun j _ => by
  have : ¬ (a ≤ j ∧ j < a) := by omega
  rw [decide_eq_false this, Bool.or_false])
theorem inN_lt (m i a t : Nat) : inN m i a t < 18446744073709551616 := setP_lt _
theorem inN_succ {m i a e t : Nat} (h : RunAt m i a e) (h1 : a ≤ t) (h2 : t < e) : withI (inN m i a t) (t : Int) = inN m i a (t + 1) := by
  have := h.e64
  rw [withI_nat (by omega)]
  unfold inN
  rw [withN_setP _ (by omega)]
  apply setP_congr
  intro j _
  by_cases ht : t = j
  · subst ht
    have hb := h.en.all t h1 h2
    simp [hb, h1]
  · have : decide (a ≤ j ∧ j < t + 1) = decide (a ≤ j ∧ j < t) := decide_eq_decide.2 (by omega)
    simp only [this, ht, decide_false, Bool.or_false]
theorem inN_end {m i a e : Nat} (h : RunAt m i a e) : inN m i a e = outN m (i + 1) := setP_congr (fun j hj => by
  cases hb : m.testBit j
  · rfl
  · have key : (cntT (startN m) (j + 1) ≤ i ∨ (a ≤ j ∧ j < e)) ↔ cntT (startN m) (j + 1) ≤ i + 1 := by
      rcases Nat.lt_or_ge j a with h1 | h1
      · have := cntT_mono (startN m) (show j + 1 ≤ a by omega)
        rw [h.is] at this
        omega
      · rcases Nat.lt_or_ge j e with h2 | h2
        · have := start_same h.en h.st h.is h.e64 j h1 h2
          omega
        · have g1 := start_more (m := m) (b := e) (.inr h.en.out) j h2 hj hb
          have g2 := start_same h.en h.st h.is h.e64 (e - 1) (by have := h.lt; omega) (by have := h.lt; omega)
          rw [show e - 1 + 1 = e by have := h.lt; omega] at g2
          omega
    rw [Bool.true_and, Bool.true_and, ← Bool.decide_or]
    exact decide_eq_decide.2 key)

def RunsLawRel (m n : Nat) (w1 : World) (g : Nat) (s i : Value) (wr : World) : Prop :=
  ∃ k : Nat, k ≤ n ∧ g = n - k ∧ i = .int .i64 k ∧ s = .int .u64 (outN m k) ∧ Below w1.heap.size w1 wr
def RunsInRel (m k a e : Nat) (s t : Value) : Prop := ∃ q : Nat, a ≤ q ∧ q ≤ e ∧ t = .int .i64 q ∧ s = .int .u64 (inN m k a q)

set_option maxRecDepth 100000 in
set_option maxHeartbeats 2000000 in
theorem runsLaw_any (m : Nat) (w : World) (hm : m < 18446744073709551616) (hT : Tab w) :
    Calls Tryd.prog 6 #[.int .u64 m] w (Ans w) := by
  have HT := Lib.hid hT
  have HA := Lib.hid (fun W (h : Tab W) => awake_any W h)
  have H1 := Lib.hid (fun W (h : Tab W) => runs_any m W hm h)
  have H2 := Lib.hid (fun W => refRuns_any m W hm)
  have HRA := Lib.hid (fun i p (h : (runsT m 64)[i]? = some p) => runs_at hm h)
  have hlen := runsT_length m 64
  have h64 := cntT_le (startN m) 64
  have HALL := Lib.hid (fun i (h : (runsT m 64).length ≤ i) => outN_all (i := i) hm (by rw [runsT_length] at h; exact h))
  generalize runsT m 64 = ps at *
  have hn64 : ps.length ≤ 64 := by omega
  have hZ := Lib.hid (outN_zero m)
  clear hT hlen h64
  go_enter Tryd.func6, Tryd.ntmps6
  go_wp2_with fail
  refine (H1.out _ HT.out).mono ?_
  rintro e w1 ⟨v1, rfl, hp1, hb1⟩
  have HB1 := Lib.hid hb1
  have HP1 := Lib.hid hp1
  clear hb1 hp1
  go_wp2_with fail
  refine (H2.out _).mono ?_
  rintro e w2 ⟨v2, rfl, hp2, hb2⟩
  have HB2 := Lib.hid (HB1.out.trans (hb2.mono HB1.out.size))
  have hp1' := HP1.out.keep hb2
  obtain ⟨A1, c1, rfl, _, hat1⟩ := hp1'
  obtain ⟨A2, c2, rfl, _, hat2⟩ := hp2
  have HA1 := Lib.hid hat1
  have HA2 := Lib.hid hat2
  clear hb2 hat1 hat2 HP1 HB1
  have hnn : ((ps.length : Int) != (ps.length : Int)) = false := by simp
  go_wp2_with fail
  go_loopg [5, 6] ps.length (fun g s i wr => RunsLawRel m ps.length w2 g s i wr)
  case atStart => exact ⟨0, Nat.zero_le _, rfl, rfl, by rw [hZ.out]; rfl, Below.refl _ _⟩
  case round =>
    obtain ⟨k, hk, hg, rfl, rfl, hbw⟩ := hrel
    have HG := Lib.hid hg
    have HW := Lib.hid hbw
    clear hg hbw
    by_cases hlt : k < ps.length
    · obtain ⟨⟨a, e⟩, hx⟩ : ∃ p, ps[k]? = some p := ⟨ps[k], List.getElem?_eq_getElem hlt⟩
      have hr := HRA.out k (a, e) hx
      have HR : Hid (RunAt m k a e) := hr
      have hae : a < e := hr.lt
      have he64 : e ≤ 64 := hr.e64
      obtain ⟨b1, o1, rfl, g1, hc1⟩ := HA1.out (by omega)
      obtain ⟨b2, o2, rfl, g2, hc2⟩ := HA2.out (by omega)
      have r1 : wr.cell? ⟨b1, o1 + k * 2, none⟩ = some (.int .i64 a) := (HW.out.cell (p := ⟨b1, o1 + k * 2, none⟩) g1).trans (hc1 k _ hx).1
      have r2 : wr.cell? ⟨b1, o1 + k * 2 + 1, none⟩ = some (.int .i64 e) := (HW.out.cell (p := ⟨b1, o1 + k * 2 + 1, none⟩) g1).trans (hc1 k _ hx).2
      have r3 : wr.cell? ⟨b2, o2 + k * 2, none⟩ = some (.int .i64 a) := (HW.out.cell (p := ⟨b2, o2 + k * 2, none⟩) g2).trans (hc2 k _ hx).1
      have r4 : wr.cell? ⟨b2, o2 + k * 2 + 1, none⟩ = some (.int .i64 e) := (HW.out.cell (p := ⟨b2, o2 + k * 2 + 1, none⟩) g2).trans (hc2 k _ hx).2
      have HC1 := Lib.hid hc1
      have HX := Lib.hid hx
      clear hc1 hc2 hx hr
      have EQ := Lib.hid (fun n => eq_pair (wr.drewN n) 9998 a e a e)
      have nn := Lib.hid (fun n => (show ((Op.equalIn 10000 42 (.agg #[.int .i64 a, .int .i64 e]) (.agg #[.int .i64 a, .int .i64 e])).run Tryd.prog (wr.drewN n)) = .ok true (wr.drewN n) by rw [EQ.out n]; simp))
      by_cases hk0 : k = 0
      · have hd0 : decide ((0 : Int) < (k : Int)) = false := decide_eq_false (by omega)
        have hd1 : decide (0 < k) = false := decide_eq_false (by omega)
        clear hk0
        have eqp := nn.out
        have HE := Lib.hid (inN_end HR.out)
        go_wp2_with fail
        go_quiet (fail)
        go_wp2_with fail
        go_loop [5, 7] (fun s t => RunsInRel m k a e s t) (fun _ t => e - (intOf t).toNat)
        case atStart => exact ⟨a, Nat.le_refl _, by omega, rfl, by rw [inN_zero]⟩
        case round =>
          obtain ⟨q, hq1, hq2, rfl, rfl⟩ := hrel
          by_cases hqe : q < e
          · have HW2 := Lib.hid (fun W => with_any (inN m k a q) (q : Int) W (inN_lt _ _ _ _))
            rw [inN_succ HR.out hq1 hqe] at HW2
            generalize hy : inN m k a (q + 1) = y at *
            have HY := Lib.hid hy
            clear hy
            generalize inN m k a q = z at *
            go_wp2_with (go_at_call 32; refine (HW2.out _).mono ?_; rintro e' w' ⟨rfl, rfl⟩)
            go_round
            case rel => exact ⟨q + 1, by omega, by omega, by go_num, by rw [HY.out]⟩
            case measure => simp [intOf]; omega
          · have hqq : q = e := by omega
            subst hqq
            go_wp2_with fail
            go_roundg (ps.length - (k + 1))
            case measure => have := HG.out; omega
            case rel => exact ⟨k + 1, by omega, rfl, by go_num, by rw [HE.out], below_drewN HW.out _⟩
      · obtain ⟨i, hi⟩ : ∃ i, k = i + 1 := ⟨k - 1, by omega⟩
        obtain ⟨⟨a', e'⟩, hx'⟩ : ∃ p, ps[i]? = some p := ⟨ps[i], List.getElem?_eq_getElem (by omega)⟩
        have hap : e' < a := run_apart (by rw [← hi]; exact HR.out) (HRA.out i (a', e') hx')
        have r5 : wr.cell? ⟨b1, o1 + i * 2 + 1, none⟩ = some (.int .i64 e') := (HW.out.cell (p := ⟨b1, o1 + i * 2 + 1, none⟩) g1).trans (HC1.out i _ hx').2
        have hdec : decide ((a : Int) ≤ (e' : Int)) = false := decide_eq_false (by omega)
        have hdec2 : decide (a ≤ e') = false := decide_eq_false (by omega)
        have hsub : IntKind.i64.wrap ((k : Int) - 1) = (i : Int) := by rw [IntWalk.i64_in _ (by omega)]; omega
        have hd0 : decide ((0 : Int) < (k : Int)) = true := decide_eq_true (by omega)
        have hd1 : decide (0 < k) = true := decide_eq_true (by omega)
        have hil : i < ps.length := by omega
        clear hx' hk0 hi
        have eqp := nn.out
        have HE := Lib.hid (inN_end HR.out)
        go_wp2_with fail
        go_quiet (fail)
        go_wp2_with fail
        go_loop [5, 7] (fun s t => RunsInRel m k a e s t) (fun _ t => e - (intOf t).toNat)
        case atStart => exact ⟨a, Nat.le_refl _, by omega, rfl, by rw [inN_zero]⟩
        case round =>
          obtain ⟨q, hq1, hq2, rfl, rfl⟩ := hrel
          by_cases hqe : q < e
          · have HW2 := Lib.hid (fun W => with_any (inN m k a q) (q : Int) W (inN_lt _ _ _ _))
            rw [inN_succ HR.out hq1 hqe] at HW2
            generalize hy : inN m k a (q + 1) = y at *
            have HY := Lib.hid hy
            clear hy
            generalize inN m k a q = z at *
            go_wp2_with (go_at_call 32; refine (HW2.out _).mono ?_; rintro e' w' ⟨rfl, rfl⟩)
            go_round
            case rel => exact ⟨q + 1, by omega, by omega, by go_num, by rw [HY.out]⟩
            case measure => simp [intOf]; omega
          · have hqq : q = e := by omega
            subst hqq
            go_wp2_with fail
            go_roundg (ps.length - (k + 1))
            case measure => have := HG.out; omega
            case rel => exact ⟨k + 1, by omega, rfl, by go_num, by rw [HE.out], below_drewN HW.out _⟩
    · have HE := Lib.hid (HALL.out k (by omega))
      rw [HE.out]
      have HBW := Lib.hid (HB2.out.trans (HW.out.mono HB2.out.size))
      go_wp2_with fail
      refine (HA.out _ (HT.out.later HBW.out)).mono ?_
      rintro e w3 ⟨rfl, hb3⟩
      go_wp2_with fail
      go_ret
      exact ⟨rfl, HBW.out.trans (hb3.mono HBW.out.size)⟩
end Go.Proofs.YtnigoojjbljibaaDoor
