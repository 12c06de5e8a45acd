/-
  Units: Unit, Kind, the document's Is and Group; a sum, or that it runs over.
  Conditions: the arguments are ints.
-/
import Derived.Test.YtpfpojehcjmfnaaGreatM02

/-
  Units: Unit, Kind, the document's Is and Group; a sum, or that it runs over.
  Conditions: the arguments are ints.
-/
set_option linter.unusedVariables false
namespace Go.Proofs.YtpfpojehcjmfnaaGreat
open Go.RowKit

theorem isTask_any (u : Int) (W : World) : Calls Tryz.prog 136 #[.int .i64 u] W (Ret (.bool (isTaskB u)) W) := by
  unfold isTaskB
  by_cases h1 : 1 ≤ u
  · have g1 : decide (1 ≤ u) = true := decide_eq_true h1
    rw [g1, Bool.true_and]
    go_enter Tryz.func136, Tryz.ntmps136
    go_wp2
    go_ret
    exact ⟨by simp_all, rfl⟩
  · have g1 : decide (1 ≤ u) = false := decide_eq_false h1
    rw [g1, Bool.false_and]
    go_enter Tryz.func136, Tryz.ntmps136
    go_wp2
    go_ret
    exact ⟨by simp_all, rfl⟩
theorem isGroup_any (u : Int) (W : World) : Calls Tryz.prog 137 #[.int .i64 u] W (Ret (.bool (isGroupB u)) W) := by
  unfold isGroupB
  by_cases h1 : 1 ≤ u
  · have g1 : decide (1 ≤ u) = true := decide_eq_true h1
    rw [g1, Bool.true_and]
    go_enter Tryz.func137, Tryz.ntmps137
    go_wp2
    go_ret
    exact ⟨by simp_all, rfl⟩
  · have g1 : decide (1 ≤ u) = false := decide_eq_false h1
    rw [g1, Bool.false_and]
    go_enter Tryz.func137, Tryz.ntmps137
    go_wp2
    go_ret
    exact ⟨by simp_all, rfl⟩

/-- What Kind answers. -/
def kindI (u : Int) : Int := if isTaskB u then u else if isU u then u - 1000 else 0
def kindG (u : Int) : Bool := !isTaskB u && isU u
theorem isU_task {u : Int} (h : isTaskB u = true) : isU u = true := by unfold isTaskB at h; unfold isU; rw [h]; rfl
theorem group_wrap {u : Int} (h1 : -9223372036854775808 ≤ u) (h2 : u ≤ 9223372036854775807) (ht : isTaskB u = false) : isGroupB (wrap64 (u - 1000)) = isU u := by
  unfold isTaskB at ht
  unfold isGroupB isU
  rw [ht, Bool.false_or]
  unfold wrap64
  rw [Bool.eq_iff_iff]
  simp
  omega
theorem kind_any (u : Int) (h1 : -9223372036854775808 ≤ u) (h2 : u ≤ 9223372036854775807) (W : World) :
    Calls Tryz.prog 84 #[.int .i64 u] W (Ret (.tuple #[.int .i64 (kindI u), .bool (kindG u), .bool (isU u)]) W) := by
  have HG := Lib.hid (fun x W => isGroup_any x W)
  have HT := Lib.hid (fun W => isTask_any u W)
  unfold kindI kindG
  cases ht : isTaskB u
  · rw [ht] at HT
    have hg := group_wrap h1 h2 ht
    simp only [Bool.false_eq_true, if_false, Bool.not_false, Bool.true_and]
    cases hu : isU u
    · rw [hu] at hg
      have HGN := Lib.hid (fun W => by have := HG.out (wrap64 (u - 1000)) W; rw [hg] at this; exact this)
      simp only [Bool.false_eq_true, if_false]
      clear h1 h2 ht hg hu HG
      go_enter Tryz.func84, Tryz.ntmps84
      go_wp2_with (first
        | (go_at_call 136; refine (HT.out _).mono ?_; rintro e w' ⟨rfl, rfl⟩)
        | (go_at_call 137; refine (HGN.out _).mono ?_; rintro e w' ⟨rfl, rfl⟩))
      go_returns
      exact ⟨rfl, rfl⟩
    · rw [hu] at hg
      have HGN := Lib.hid (fun W => by have := HG.out (wrap64 (u - 1000)) W; rw [hg] at this; exact this)
      have hw : wrap64 (u - 1000) = u - 1000 := by
        unfold isTaskB at ht
        unfold isU at hu
        rw [ht] at hu
        simp at hu
        unfold wrap64
        omega
      simp only [if_true]
      rw [hw] at HGN
      clear h1 h2 ht hg hu HG
      go_enter Tryz.func84, Tryz.ntmps84
      go_wp2_with (first
        | (go_at_call 136; refine (HT.out _).mono ?_; rintro e w' ⟨rfl, rfl⟩)
        | (go_at_call 137; refine (HGN.out _).mono ?_; rintro e w' ⟨rfl, rfl⟩))
      go_returns
      exact ⟨rfl, rfl⟩
  · rw [ht] at HT
    rw [isU_task ht]
    simp only [if_true, Bool.not_true, Bool.false_and]
    clear h1 h2 ht HG
    go_enter Tryz.func84, Tryz.ntmps84
    go_wp2_with (go_at_call 136; refine (HT.out _).mono ?_; rintro e w' ⟨rfl, rfl⟩)
    go_returns
    exact ⟨rfl, rfl⟩

theorem is_any (u : Int) (W : World) : Calls Tryz.prog 42 #[.int .i64 u] W (Ret (.bool (isU u)) W) := by
  obtain ⟨r, hr⟩ : ∃ r, isU u = r := ⟨_, rfl⟩
  rw [hr]
  by_cases a1 : 1 ≤ u <;> by_cases a2 : u ≤ 200 <;> by_cases a3 : 1001 ≤ u <;> by_cases a4 : u ≤ 1040
  all_goals first
    | (exfalso; omega)
    | (have g1 : decide (1 ≤ u) = true := decide_eq_true a1
       have g2 : decide (u ≤ 200) = true := decide_eq_true a2
       obtain rfl : r = true := (by rw [← hr]; unfold isU; rw [g1, g2]; rfl)
       clear hr
       go_enter Tryz.func42, Tryz.ntmps42
       go_wp2
       go_ret
       exact ⟨by simp_all, rfl⟩)
    | (have g1 : decide (1 ≤ u) = true := decide_eq_true a1
       have g2 : decide (u ≤ 200) = false := decide_eq_false a2
       have g3 : decide (1001 ≤ u) = true := decide_eq_true a3
       have g4 : decide (u ≤ 1040) = true := decide_eq_true a4
       obtain rfl : r = true := (by rw [← hr]; unfold isU; rw [g1, g2, g3, g4]; rfl)
       clear hr
       go_enter Tryz.func42, Tryz.ntmps42
       go_wp2
       go_ret
       exact ⟨by simp_all, rfl⟩)
    | (have g1 : decide (1 ≤ u) = true := decide_eq_true a1
       have g2 : decide (u ≤ 200) = false := decide_eq_false a2
       have g3 : decide (1001 ≤ u) = true := decide_eq_true a3
       have g4 : decide (u ≤ 1040) = false := decide_eq_false a4
       obtain rfl : r = false := (by rw [← hr]; unfold isU; rw [g1, g2, g3, g4]; rfl)
       clear hr
       go_enter Tryz.func42, Tryz.ntmps42
       go_wp2
       go_ret
       exact ⟨by simp_all, rfl⟩)
    | (have g1 : decide (1 ≤ u) = true := decide_eq_true a1
       have g2 : decide (u ≤ 200) = false := decide_eq_false a2
       have g3 : decide (1001 ≤ u) = false := decide_eq_false a3
       obtain rfl : r = false := (by rw [← hr]; unfold isU; rw [g1, g2, g3]; rfl)
       clear hr
       go_enter Tryz.func42, Tryz.ntmps42
       go_wp2
       go_ret
       exact ⟨by simp_all, rfl⟩)
    | (have g1 : decide (1 ≤ u) = false := decide_eq_false a1
       have g3 : decide (1001 ≤ u) = false := decide_eq_false a3
       obtain rfl : r = false := (by rw [← hr]; unfold isU; rw [g1, g3]; rfl)
       clear hr
       go_enter Tryz.func42, Tryz.ntmps42
       go_wp2
       go_ret
       exact ⟨by simp_all, rfl⟩)
end Go.Proofs.YtpfpojehcjmfnaaGreat
