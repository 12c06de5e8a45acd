/-
  A set that is turned; ticks from one on, round; all ticks: the document's plain answers.
  Conditions: the numbers are of their kinds.
-/
import Derived.Test.YtnigoojjbljibaaDoorTurn
set_option linter.unusedVariables false
namespace Go.Proofs.YtnigoojjbljibaaDoor
open Go.RowKit

theorem allN_succ {i : Nat} (hi : i < 64) : withI (allN i) (i : Int) = allN (i + 1) := by
  rw [withI_nat hi]
  refine eq_of_bits (withN_lt (allN_lt (by omega)) hi) (allN_lt hi) (fun j _ => ?_)
  rw [withN_bit, allN_bit, allN_bit]
  by_cases h : i = j
  · subst h; simp
  · have : decide (j < i + 1) = decide (j < i) := by simp; omega
    simp [h, this]

def AllRel (f : Nat) (s i : Value) : Prop := ∃ k : Nat, k ≤ f ∧ i = .int .i64 k ∧ s = .int .u64 (allN k)

set_option maxHeartbeats 1000000 in
theorem refAll_any (F : Int) (w : World) : Calls Tryd.prog 10 #[.int .i64 F] w (Ret (.int .u64 (allN (frN F))) w) := by
  have HF := Lib.hid (fun W => frame_any F W)
  have hf := frN_le F
  generalize frN F = f at *
  go_enter Tryd.func10, Tryd.ntmps10
  go_wp2
  go_loop [3, 4] (fun s i => AllRel f s i) (fun _ i => f - (intOf i).toNat)
  case atStart => exact ⟨0, Nat.zero_le _, rfl, rfl⟩
  case round =>
    obtain ⟨k, hk, rfl, rfl⟩ := hrel
    by_cases hlt : k < f
    · have HW := Lib.hid (fun W => with_any (allN k) (k : Int) W (allN_lt (by omega)))
      rw [allN_succ (by omega)] at HW
      generalize hx : allN (k + 1) = x at *
      have HX := Lib.hid hx
      clear hx
      generalize allN k = y at *
      go_wp2_with (first | (go_at_call 34; refine (HF.out _).mono ?_; rintro e w' ⟨rfl, rfl⟩) | (go_at_call 32; refine (HW.out _).mono ?_; rintro e w' ⟨rfl, rfl⟩))
      go_round
      case rel => exact ⟨k + 1, by omega, by go_num, by rw [HX.out]⟩
      case measure => simp [intOf]; omega
    · have hkf : k = f := by omega
      subst hkf
      go_wp2_with (go_at_call 34; refine (HF.out _).mono ?_; rintro e w' ⟨rfl, rfl⟩)
      go_ret
      exact ⟨rfl, rfl⟩

theorem laterN_eq {f l i : Nat} (hl : l < f) (hi : i < f) : laterN f l i = if i + l < f then i + l else i + l - f := by
  unfold laterN
  split
  · exact Nat.mod_eq_of_lt ‹_›
  · rw [Nat.mod_eq_sub_mod (by omega), Nat.mod_eq_of_lt (by omega)]
theorem later_lt {f l i : Nat} (hl : l < f) (hi : i < f) : laterN f l i < f := by
  rw [laterN_eq hl hi]; split <;> omega
theorem later_src {f l i j : Nat} (hl : l < f) (hi : i < f) : laterN f l i = j ↔ j < f ∧ srcN f l j = i := by
  rw [laterN_eq hl hi]
  unfold srcN
  split <;> split <;> omega
theorem src_lt {f l j : Nat} (hl : l < f) (hj : j < f) : srcN f l j < f := by
  unfold srcN
  split <;> omega

def turnS (f m l i : Nat) : Nat := setP (fun j => decide (j < f) && m.testBit (srcN f l j) && decide (srcN f l j < i))
theorem turnS_zero (f m l : Nat) : turnS f m l 0 = 0 := setP_zero (fun j _ => by simp)
theorem turnS_all (f m l : Nat) (hl : l < f) : turnS f m l f = turnN f m l := setP_congr (fun j _ => by
  by_cases hj : j < f
  · have := src_lt hl hj
    simp [hj, this]
  · simp [hj])
theorem turnS_yes {f m l i : Nat} (hl : l < f) (hi : i < f) (hf : f ≤ 64) (hb : m.testBit i = true) : withI (turnS f m l i) (laterN f l i : Int) = turnS f m l (i + 1) := by
  have hlt := later_lt hl hi
  rw [withI_nat (by omega)]
  unfold turnS
  rw [withN_setP _ (by omega)]
  apply setP_congr
  intro j _
  have e := later_src (j := j) hl hi
  by_cases hs : j < f ∧ srcN f l j = i
  · have h1 := e.2 hs
    simp [h1, hs.1, hs.2, hb]
  · have h1 : ¬ laterN f l i = j := fun h => hs (e.1 h)
    by_cases hj : j < f
    · have : srcN f l j ≠ i := fun h => hs ⟨hj, h⟩
      have d : decide (srcN f l j < i + 1) = decide (srcN f l j < i) := by simp; omega
      simp [h1, d]
    · simp [h1, hj]
theorem turnS_no {f m l i : Nat} (hb : m.testBit i = false) : turnS f m l i = turnS f m l (i + 1) := setP_congr (fun j _ => by
  by_cases h : srcN f l j = i
  · rw [h, hb]; simp
  · have d : decide (srcN f l j < i + 1) = decide (srcN f l j < i) := by simp; omega
    rw [d])
theorem turnS_lt (f m l i : Nat) : turnS f m l i < 18446744073709551616 := setP_lt _

def TurnRel (f m l : Nat) (s i : Value) : Prop := ∃ k : Nat, k ≤ f ∧ i = .int .i64 k ∧ s = .int .u64 (turnS f m l k)

set_option maxHeartbeats 1000000 in
theorem refTurn_any (F : Int) (m : Nat) (d : Int) (w : World) (hm : m < 18446744073709551616) :
    Calls Tryd.prog 23 #[.int .i64 F, .int .u64 m, .int .i64 d] w (Ret (.int .u64 (turnN (frN F) m (modN d (frN F)))) w) := by
  have HF := Lib.hid (fun W => frame_any F W)
  have hf := frN_le F
  generalize frN F = f at *
  go_enter Tryd.func23, Tryd.ntmps23
  go_wp2
  go_loop [7, 8] (fun s i => TurnRel f m (modN d f) s i) (fun _ i => f - (intOf i).toNat)
  case atStart => exact ⟨0, Nat.zero_le _, rfl, by rw [turnS_zero]; rfl⟩
  case round =>
    obtain ⟨k, hk, rfl, rfl⟩ := hrel
    by_cases hlt : k < f
    · have hl : modN d f < f := modN_lt (by omega)
      have HL := Lib.hid (fun W => later_any f k d W (by omega) hf (by omega))
      have HH := Lib.hid (fun W => refHas_any m (k : Int) W hm)
      rw [hasB_nat (by omega)] at HH
      generalize modN d f = l at *
      cases hb : m.testBit k
      · rw [hb] at HH
        have HX := Lib.hid (turnS_no (f := f) (l := l) hb)
        generalize turnS f m l k = y at *
        go_wp2_with (first | (go_at_call 34; refine (HF.out _).mono ?_; rintro e w' ⟨rfl, rfl⟩) | (go_at_call 12; refine (HH.out _).mono ?_; rintro e w' ⟨rfl, rfl⟩))
        go_round
        case rel => exact ⟨k + 1, by omega, by go_num, by rw [HX.out]⟩
        case measure => simp [intOf]; omega
      · rw [hb] at HH
        have HW := Lib.hid (fun W => with_any (turnS f m l k) (laterN f l k : Int) W (turnS_lt _ _ _ _))
        rw [turnS_yes hl hlt hf hb] at HW
        generalize hx : turnS f m l (k + 1) = x at *
        have HX := Lib.hid hx
        clear hx
        generalize turnS f m l k = y at *
        generalize laterN f l k = t at *
        go_wp2_with (first | (go_at_call 34; refine (HF.out _).mono ?_; rintro e w' ⟨rfl, rfl⟩) | (go_at_call 12; refine (HH.out _).mono ?_; rintro e w' ⟨rfl, rfl⟩) | (go_at_call 37; refine (HL.out _).mono ?_; rintro e w' ⟨rfl, rfl⟩) | (go_at_call 32; refine (HW.out _).mono ?_; rintro e w' ⟨rfl, rfl⟩))
        go_round
        case rel => exact ⟨k + 1, by omega, by go_num, by rw [HX.out]⟩
        case measure => simp [intOf]; omega
    · have hkf : k = f := by omega
      subst hkf
      have HE : Hid (turnS k m (modN d k) k = turnN k m (modN d k)) := by
        rcases Nat.eq_zero_or_pos k with h0 | h0
        · subst h0; unfold Hid; rw [turnS_zero, turn_zero]
        · exact turnS_all _ _ _ (modN_lt h0)
      go_wp2_with (go_at_call 34; refine (HF.out _).mono ?_; rintro e w' ⟨rfl, rfl⟩)
      go_ret
      exact ⟨ret_nat HE.out, rfl⟩

theorem round_zero (f l : Nat) : roundN f 0 l = 0 := setP_zero (fun j _ => by simp)
theorem round_full {f l n k : Nat} (hl : l < f) (hk : f ≤ k) (hn : f ≤ n) : roundN f k l = roundN f n l := setP_congr (fun j _ => by
  by_cases hj : j < f
  · have := src_lt hl hj
    have h1 : srcN f l j < k := by omega
    have h2 : srcN f l j < n := by omega
    simp [h1, h2]
  · simp [hj])
theorem round_none (n l : Nat) : roundN 0 n l = 0 := setP_zero (fun j _ => by simp)
theorem round_yes {f l i : Nat} (hl : l < f) (hi : i < f) (hf : f ≤ 64) : withI (roundN f i l) (laterN f l i : Int) = roundN f (i + 1) l := by
  have hlt := later_lt hl hi
  rw [withI_nat (by omega)]
  unfold roundN
  rw [withN_setP _ (by omega)]
  apply setP_congr
  intro j _
  have e := later_src (j := j) hl hi
  by_cases hs : j < f ∧ srcN f l j = i
  · have h1 := e.2 hs
    simp [h1, hs.1, hs.2]
  · have h1 : ¬ laterN f l i = j := fun h => hs (e.1 h)
    by_cases hj : j < f
    · have : srcN f l j ≠ i := fun h => hs ⟨hj, h⟩
      have d : decide (srcN f l j < i + 1) = decide (srcN f l j < i) := by simp; omega
      simp [h1, d]
    · simp [h1, hj]
theorem round_lt (f n l : Nat) : roundN f n l < 18446744073709551616 := setP_lt _

def RoundRel (f l : Nat) (n : Int) (s i : Value) : Prop := ∃ k : Nat, k ≤ f ∧ ((k : Int) ≤ n ∨ k = 0) ∧ i = .int .i64 k ∧ s = .int .u64 (roundN f k l)

set_option maxHeartbeats 1000000 in
theorem refRound_any (F d n : Int) (w : World) :
    Calls Tryd.prog 21 #[.int .i64 F, .int .i64 d, .int .i64 n] w (Ret (.int .u64 (roundN (frN F) (frN n) (modN d (frN F)))) w) := by
  have HF := Lib.hid (fun W => frame_any F W)
  have hf := frN_le F
  generalize frN F = f at *
  go_enter Tryd.func21, Tryd.ntmps21
  go_wp2
  go_loop [7, 8] (fun s i => RoundRel f (modN d f) n s i) (fun _ i => f - (intOf i).toNat)
  case atStart => exact ⟨0, Nat.zero_le _, .inr rfl, rfl, by rw [round_zero]; rfl⟩
  case round =>
    obtain ⟨k, hk, hkn, rfl, rfl⟩ := hrel
    by_cases hlt : k < f
    · have hl : modN d f < f := modN_lt (by omega)
      by_cases hn : (k : Int) < n
      · have hn' : decide ((k : Int) < n) = true := decide_eq_true hn
        have HL := Lib.hid (fun W => later_any f k d W (by omega) hf (by omega))
        generalize modN d f = l at *
        have HW := Lib.hid (fun W => with_any (roundN f k l) (laterN f l k : Int) W (round_lt _ _ _))
        rw [round_yes hl hlt hf] at HW
        generalize hx : roundN f (k + 1) l = x at *
        have HX := Lib.hid hx
        clear hx
        generalize roundN f k l = y at *
        generalize laterN f l k = t at *
        go_wp2_with (first | (go_at_call 34; refine (HF.out _).mono ?_; rintro e w' ⟨rfl, rfl⟩) | (go_at_call 37; refine (HL.out _).mono ?_; rintro e w' ⟨rfl, rfl⟩) | (go_at_call 32; refine (HW.out _).mono ?_; rintro e w' ⟨rfl, rfl⟩))
        go_round
        case rel => exact ⟨k + 1, by omega, .inl (by omega), by go_num, by rw [HX.out]⟩
        case measure => simp [intOf]; omega
      · have hn' : decide ((k : Int) < n) = false := decide_eq_false hn
        have e := Lib.hid (show frN n = k by unfold frN; omega)
        go_wp2_with (go_at_call 34; refine (HF.out _).mono ?_; rintro e' w' ⟨rfl, rfl⟩)
        go_ret
        exact ⟨ret_nat (by rw [e.out]), rfl⟩
    · have hkf : k = f := by omega
      subst hkf
      have HE : Hid (roundN k k (modN d k) = roundN k (frN n) (modN d k)) := by
        rcases Nat.eq_zero_or_pos k with h0 | h0
        · subst h0; unfold Hid; rw [round_none, round_none]
        · exact round_full (modN_lt h0) (Nat.le_refl _) (by unfold frN; omega)
      clear hkn
      go_wp2_with (go_at_call 34; refine (HF.out _).mono ?_; rintro e w' ⟨rfl, rfl⟩)
      go_ret
      exact ⟨ret_nat HE.out, rfl⟩
end Go.Proofs.YtnigoojjbljibaaDoor
