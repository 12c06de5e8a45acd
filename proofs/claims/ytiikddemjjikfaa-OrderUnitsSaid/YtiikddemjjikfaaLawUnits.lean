/-
  OrderUnits walked.
  Conditions: the arguments are ints, or read as wants of ints.
-/
import Derived.Test.YtiikddemjjikfaaAwake
set_option linter.unusedVariables false
namespace Go.Proofs.Ytiikddemjjikfaa
open Go.RowKit

theorem unit_good_g {id : Int} (h1 : 1 ≤ id) (h2 : id ≤ 40) : isGroupB id = true := by unfold isGroupB; simp; exact ⟨h1, h2⟩
theorem unit_good_t {id : Int} (h1 : 1 ≤ id) (h2 : id ≤ 200) : isTaskB id = true := by unfold isTaskB; simp; exact ⟨h1, h2⟩
theorem unit_bad_g {id : Int} (h : ¬ (1 ≤ id ∧ id ≤ 40)) : isGroupB id = false := by
  cases hb : isGroupB id
  · rfl
  · unfold isGroupB at hb; simp at hb; exact absurd hb h
theorem unit_bad_t {id : Int} (h : ¬ (1 ≤ id ∧ id ≤ 200)) : isTaskB id = false := by
  cases hb : isTaskB id
  · rfl
  · unfold isTaskB at hb; simp at hb; exact absurd hb h
theorem kind_group {id : Int} (h1 : 1 ≤ id) (h2 : id ≤ 40) : isTaskB (id + 1000) = false ∧ isU (id + 1000) = true ∧ kindI (id + 1000) = id ∧ kindG (id + 1000) = true := by
  have a : isTaskB (id + 1000) = false := unit_bad_t (by omega)
  have b : isU (id + 1000) = true := by unfold isU; simp; omega
  refine ⟨a, b, ?_, ?_⟩
  · unfold kindI; rw [a, b]; simp
  · unfold kindG; rw [a, b]; rfl
theorem kind_task {id : Int} (h1 : 1 ≤ id) (h2 : id ≤ 200) : isU id = true ∧ kindI id = id ∧ kindG id = false := by
  have a := unit_good_t h1 h2
  refine ⟨isU_task a, ?_, ?_⟩
  · unfold kindI; rw [a]; rfl
  · unfold kindG; rw [a]; rfl
/-- What Kind answers of a unit, Unit gives back. -/
theorem kind_back {u : Int} (h : isU u = true) : unitU (kindI u) (kindG u) = u ∧ unitE (kindI u) (kindG u) = 0 := by
  unfold kindI kindG unitU unitE
  cases ht : isTaskB u
  · rw [h]
    have hg : isGroupB (u - 1000) = true := by
      unfold isTaskB at ht
      unfold isU at h
      rw [ht] at h
      simp at h
      exact unit_good_g (by omega) (by omega)
    simp [hg]
  · simp [ht]
theorem kind_none {u : Int} (h : isU u = false) : kindI u = 0 ∧ kindG u = false := by
  have ht : isTaskB u = false := by
    cases ht : isTaskB u
    · rfl
    · rw [isU_task ht] at h; cases h
  unfold kindI kindG
  rw [ht, h]
  exact ⟨rfl, rfl⟩

set_option maxRecDepth 100000 in
set_option maxHeartbeats 2000000 in
theorem units_g_ok_y (id unit : Int) (h1 : 1 ≤ id) (h2 : id ≤ 40) (hu : isU unit = true) (u1 : -9223372036854775808 ≤ unit) (u2 : unit ≤ 9223372036854775807) (w : World) :
    Calls Try.prog 3 #[.int .i64 id, .bool true, .int .i64 unit] w (RetB (.bool true) w) := by
  have HAW := Lib.hid (fun W => awake_any W)
  obtain ⟨ki, kg, hki, hkg⟩ : ∃ ki kg, kindI unit = ki ∧ kindG unit = kg := ⟨_, _, rfl, rfl⟩
  have HK2 : Hid (∀ W, Calls Try.prog 8 #[.int .i64 unit] W (Ret (.tuple #[.int .i64 ki, .bool kg, .bool true]) W)) := fun W => by
    have := kind_any unit u1 u2 W
    rwa [hu, hki, hkg] at this
  have HI2 : Hid (∀ W, Calls Try.prog 9 #[.int .i64 unit] W (Ret (.bool true) W)) := fun W => by
    have := is_any unit W
    rwa [hu] at this
  have HB2 : Hid (∀ W, Calls Try.prog 7 #[.int .i64 ki, .bool kg] W (Ret (.tuple #[.int .i64 unit, .int .i64 0]) W)) := fun W => by
    have := unit_any ki kg W
    rwa [← hki, ← hkg, (kind_back hu).1, (kind_back hu).2, hki, hkg] at this
  clear hki hkg
  obtain ⟨u, hid⟩ : ∃ u, id + 1000 = u := ⟨_, rfl⟩
  obtain ⟨k1, k2, k3, k4⟩ := kind_group h1 h2
  have HU : Hid (∀ W, Calls Try.prog 7 #[.int .i64 id, .bool true] W (Ret (.tuple #[.int .i64 u, .int .i64 0]) W)) := fun W => by
    have := unit_any id true W
    unfold unitU unitE at this
    rw [unit_good_g h1 h2, hid] at this
    exact this
  rw [hid] at k2 k3 k4
  have hgr : decide (1000 < u) = true := decide_eq_true (by omega)
  have HK1 : Hid (∀ W, Calls Try.prog 8 #[.int .i64 u] W (Ret (.tuple #[.int .i64 id, .bool true, .bool true]) W)) := fun W => by
    have := kind_any u (by omega) (by omega) W
    rwa [k2, k3, k4] at this
  have HI1 : Hid (∀ W, Calls Try.prog 9 #[.int .i64 u] W (Ret (.bool true) W)) := fun W => by
    have := is_any u W
    rwa [k2] at this
  have HG1 : Hid (∀ W, Calls Try.prog 10 #[.int .i64 u] W (Ret (.bool true) W)) := fun W => by
    have := refGroup_any u W
    rwa [hgr] at this
  have g1 : decide (1 ≤ id) = true := decide_eq_true h1
  have g2 : decide (id ≤ 40) = true := decide_eq_true h2
  clear k2 k3 k4 k1 hid hgr hu
  go_enter Try.func3, Try.ntmps3
  go_wp2_with fail
  refine (HU.out _).mono ?_
  rintro e w' ⟨rfl, rfl⟩
  go_wp2_with fail
  refine (HK1.out _).mono ?_
  rintro e w' ⟨rfl, rfl⟩
  go_wp2_with fail
  refine (HI1.out _).mono ?_
  rintro e w' ⟨rfl, rfl⟩
  go_wp2_with fail
  refine (HG1.out _).mono ?_
  rintro e w' ⟨rfl, rfl⟩
  go_wp2_with fail
  refine (HK2.out _).mono ?_
  rintro e w' ⟨rfl, rfl⟩
  go_wp2_with fail
  refine (HI2.out _).mono ?_
  rintro e w' ⟨rfl, rfl⟩
  go_wp2_with fail
  refine (HB2.out _).mono ?_
  rintro e w' ⟨rfl, rfl⟩
  go_wp2_with fail
  refine (HAW.out _).mono ?_
  rintro e w9 ⟨rfl, hb⟩
  go_wp2
  go_ret
  exact ⟨rfl, hb⟩

set_option maxRecDepth 100000 in
set_option maxHeartbeats 2000000 in
theorem units_g_ok_n (id unit : Int) (h1 : 1 ≤ id) (h2 : id ≤ 40) (hu : isU unit = false) (u1 : -9223372036854775808 ≤ unit) (u2 : unit ≤ 9223372036854775807) (w : World) :
    Calls Try.prog 3 #[.int .i64 id, .bool true, .int .i64 unit] w (RetB (.bool true) w) := by
  have HAW := Lib.hid (fun W => awake_any W)
  have HK2 : Hid (∀ W, Calls Try.prog 8 #[.int .i64 unit] W (Ret (.tuple #[.int .i64 0, .bool false, .bool false]) W)) := fun W => by
    have := kind_any unit u1 u2 W
    rwa [hu, (kind_none hu).1, (kind_none hu).2] at this
  have HI2 : Hid (∀ W, Calls Try.prog 9 #[.int .i64 unit] W (Ret (.bool false) W)) := fun W => by
    have := is_any unit W
    rwa [hu] at this
  obtain ⟨u, hid⟩ : ∃ u, id + 1000 = u := ⟨_, rfl⟩
  obtain ⟨k1, k2, k3, k4⟩ := kind_group h1 h2
  have HU : Hid (∀ W, Calls Try.prog 7 #[.int .i64 id, .bool true] W (Ret (.tuple #[.int .i64 u, .int .i64 0]) W)) := fun W => by
    have := unit_any id true W
    unfold unitU unitE at this
    rw [unit_good_g h1 h2, hid] at this
    exact this
  rw [hid] at k2 k3 k4
  have hgr : decide (1000 < u) = true := decide_eq_true (by omega)
  have HK1 : Hid (∀ W, Calls Try.prog 8 #[.int .i64 u] W (Ret (.tuple #[.int .i64 id, .bool true, .bool true]) W)) := fun W => by
    have := kind_any u (by omega) (by omega) W
    rwa [k2, k3, k4] at this
  have HI1 : Hid (∀ W, Calls Try.prog 9 #[.int .i64 u] W (Ret (.bool true) W)) := fun W => by
    have := is_any u W
    rwa [k2] at this
  have HG1 : Hid (∀ W, Calls Try.prog 10 #[.int .i64 u] W (Ret (.bool true) W)) := fun W => by
    have := refGroup_any u W
    rwa [hgr] at this
  have g1 : decide (1 ≤ id) = true := decide_eq_true h1
  have g2 : decide (id ≤ 40) = true := decide_eq_true h2
  clear k2 k3 k4 k1 hid hgr hu
  go_enter Try.func3, Try.ntmps3
  go_wp2_with fail
  refine (HU.out _).mono ?_
  rintro e w' ⟨rfl, rfl⟩
  go_wp2_with fail
  refine (HK1.out _).mono ?_
  rintro e w' ⟨rfl, rfl⟩
  go_wp2_with fail
  refine (HI1.out _).mono ?_
  rintro e w' ⟨rfl, rfl⟩
  go_wp2_with fail
  refine (HG1.out _).mono ?_
  rintro e w' ⟨rfl, rfl⟩
  go_wp2_with fail
  refine (HK2.out _).mono ?_
  rintro e w' ⟨rfl, rfl⟩
  go_wp2_with fail
  refine (HI2.out _).mono ?_
  rintro e w' ⟨rfl, rfl⟩
  go_wp2_with fail
  refine (HAW.out _).mono ?_
  rintro e w9 ⟨rfl, hb⟩
  go_wp2
  go_ret
  exact ⟨rfl, hb⟩

set_option maxRecDepth 100000 in
set_option maxHeartbeats 2000000 in
theorem units_g_big_y (id unit : Int) (h1 : 1 ≤ id) (h2 : ¬ id ≤ 40) (hu : isU unit = true) (u1 : -9223372036854775808 ≤ unit) (u2 : unit ≤ 9223372036854775807) (w : World) :
    Calls Try.prog 3 #[.int .i64 id, .bool true, .int .i64 unit] w (RetB (.bool true) w) := by
  have HAW := Lib.hid (fun W => awake_any W)
  obtain ⟨ki, kg, hki, hkg⟩ : ∃ ki kg, kindI unit = ki ∧ kindG unit = kg := ⟨_, _, rfl, rfl⟩
  have HK2 : Hid (∀ W, Calls Try.prog 8 #[.int .i64 unit] W (Ret (.tuple #[.int .i64 ki, .bool kg, .bool true]) W)) := fun W => by
    have := kind_any unit u1 u2 W
    rwa [hu, hki, hkg] at this
  have HI2 : Hid (∀ W, Calls Try.prog 9 #[.int .i64 unit] W (Ret (.bool true) W)) := fun W => by
    have := is_any unit W
    rwa [hu] at this
  have HB2 : Hid (∀ W, Calls Try.prog 7 #[.int .i64 ki, .bool kg] W (Ret (.tuple #[.int .i64 unit, .int .i64 0]) W)) := fun W => by
    have := unit_any ki kg W
    rwa [← hki, ← hkg, (kind_back hu).1, (kind_back hu).2, hki, hkg] at this
  clear hki hkg
  have HU : Hid (∀ W, Calls Try.prog 7 #[.int .i64 id, .bool true] W (Ret (.tuple #[.int .i64 0, .int .i64 20]) W)) := fun W => by
    have := unit_any id true W
    unfold unitU unitE at this
    rw [unit_bad_g (fun h => h2 h.2)] at this
    exact this
  have g1 : decide (1 ≤ id) = true := decide_eq_true h1
  have g2 : decide (id ≤ 40) = false := decide_eq_false h2
  clear hu
  go_enter Try.func3, Try.ntmps3
  go_wp2_with fail
  refine (HU.out _).mono ?_
  rintro e w' ⟨rfl, rfl⟩
  go_wp2_with fail
  refine (HK2.out _).mono ?_
  rintro e w' ⟨rfl, rfl⟩
  go_wp2_with fail
  refine (HI2.out _).mono ?_
  rintro e w' ⟨rfl, rfl⟩
  go_wp2_with fail
  refine (HB2.out _).mono ?_
  rintro e w' ⟨rfl, rfl⟩
  go_wp2_with fail
  refine (HAW.out _).mono ?_
  rintro e w9 ⟨rfl, hb⟩
  go_wp2
  go_ret
  exact ⟨rfl, hb⟩

set_option maxRecDepth 100000 in
set_option maxHeartbeats 2000000 in
theorem units_g_big_n (id unit : Int) (h1 : 1 ≤ id) (h2 : ¬ id ≤ 40) (hu : isU unit = false) (u1 : -9223372036854775808 ≤ unit) (u2 : unit ≤ 9223372036854775807) (w : World) :
    Calls Try.prog 3 #[.int .i64 id, .bool true, .int .i64 unit] w (RetB (.bool true) w) := by
  have HAW := Lib.hid (fun W => awake_any W)
  have HK2 : Hid (∀ W, Calls Try.prog 8 #[.int .i64 unit] W (Ret (.tuple #[.int .i64 0, .bool false, .bool false]) W)) := fun W => by
    have := kind_any unit u1 u2 W
    rwa [hu, (kind_none hu).1, (kind_none hu).2] at this
  have HI2 : Hid (∀ W, Calls Try.prog 9 #[.int .i64 unit] W (Ret (.bool false) W)) := fun W => by
    have := is_any unit W
    rwa [hu] at this
  have HU : Hid (∀ W, Calls Try.prog 7 #[.int .i64 id, .bool true] W (Ret (.tuple #[.int .i64 0, .int .i64 20]) W)) := fun W => by
    have := unit_any id true W
    unfold unitU unitE at this
    rw [unit_bad_g (fun h => h2 h.2)] at this
    exact this
  have g1 : decide (1 ≤ id) = true := decide_eq_true h1
  have g2 : decide (id ≤ 40) = false := decide_eq_false h2
  clear hu
  go_enter Try.func3, Try.ntmps3
  go_wp2_with fail
  refine (HU.out _).mono ?_
  rintro e w' ⟨rfl, rfl⟩
  go_wp2_with fail
  refine (HK2.out _).mono ?_
  rintro e w' ⟨rfl, rfl⟩
  go_wp2_with fail
  refine (HI2.out _).mono ?_
  rintro e w' ⟨rfl, rfl⟩
  go_wp2_with fail
  refine (HAW.out _).mono ?_
  rintro e w9 ⟨rfl, hb⟩
  go_wp2
  go_ret
  exact ⟨rfl, hb⟩

set_option maxRecDepth 100000 in
set_option maxHeartbeats 2000000 in
theorem units_g_low_y (id unit : Int) (h1 : ¬ 1 ≤ id) (hu : isU unit = true) (u1 : -9223372036854775808 ≤ unit) (u2 : unit ≤ 9223372036854775807) (w : World) :
    Calls Try.prog 3 #[.int .i64 id, .bool true, .int .i64 unit] w (RetB (.bool true) w) := by
  have HAW := Lib.hid (fun W => awake_any W)
  obtain ⟨ki, kg, hki, hkg⟩ : ∃ ki kg, kindI unit = ki ∧ kindG unit = kg := ⟨_, _, rfl, rfl⟩
  have HK2 : Hid (∀ W, Calls Try.prog 8 #[.int .i64 unit] W (Ret (.tuple #[.int .i64 ki, .bool kg, .bool true]) W)) := fun W => by
    have := kind_any unit u1 u2 W
    rwa [hu, hki, hkg] at this
  have HI2 : Hid (∀ W, Calls Try.prog 9 #[.int .i64 unit] W (Ret (.bool true) W)) := fun W => by
    have := is_any unit W
    rwa [hu] at this
  have HB2 : Hid (∀ W, Calls Try.prog 7 #[.int .i64 ki, .bool kg] W (Ret (.tuple #[.int .i64 unit, .int .i64 0]) W)) := fun W => by
    have := unit_any ki kg W
    rwa [← hki, ← hkg, (kind_back hu).1, (kind_back hu).2, hki, hkg] at this
  clear hki hkg
  have HU : Hid (∀ W, Calls Try.prog 7 #[.int .i64 id, .bool true] W (Ret (.tuple #[.int .i64 0, .int .i64 20]) W)) := fun W => by
    have := unit_any id true W
    unfold unitU unitE at this
    rw [unit_bad_g (fun h => h1 h.1)] at this
    exact this
  have g1 : decide (1 ≤ id) = false := decide_eq_false h1
  clear hu
  go_enter Try.func3, Try.ntmps3
  go_wp2_with fail
  refine (HU.out _).mono ?_
  rintro e w' ⟨rfl, rfl⟩
  go_wp2_with fail
  refine (HK2.out _).mono ?_
  rintro e w' ⟨rfl, rfl⟩
  go_wp2_with fail
  refine (HI2.out _).mono ?_
  rintro e w' ⟨rfl, rfl⟩
  go_wp2_with fail
  refine (HB2.out _).mono ?_
  rintro e w' ⟨rfl, rfl⟩
  go_wp2_with fail
  refine (HAW.out _).mono ?_
  rintro e w9 ⟨rfl, hb⟩
  go_wp2
  go_ret
  exact ⟨rfl, hb⟩

set_option maxRecDepth 100000 in
set_option maxHeartbeats 2000000 in
theorem units_g_low_n (id unit : Int) (h1 : ¬ 1 ≤ id) (hu : isU unit = false) (u1 : -9223372036854775808 ≤ unit) (u2 : unit ≤ 9223372036854775807) (w : World) :
    Calls Try.prog 3 #[.int .i64 id, .bool true, .int .i64 unit] w (RetB (.bool true) w) := by
  have HAW := Lib.hid (fun W => awake_any W)
  have HK2 : Hid (∀ W, Calls Try.prog 8 #[.int .i64 unit] W (Ret (.tuple #[.int .i64 0, .bool false, .bool false]) W)) := fun W => by
    have := kind_any unit u1 u2 W
    rwa [hu, (kind_none hu).1, (kind_none hu).2] at this
  have HI2 : Hid (∀ W, Calls Try.prog 9 #[.int .i64 unit] W (Ret (.bool false) W)) := fun W => by
    have := is_any unit W
    rwa [hu] at this
  have HU : Hid (∀ W, Calls Try.prog 7 #[.int .i64 id, .bool true] W (Ret (.tuple #[.int .i64 0, .int .i64 20]) W)) := fun W => by
    have := unit_any id true W
    unfold unitU unitE at this
    rw [unit_bad_g (fun h => h1 h.1)] at this
    exact this
  have g1 : decide (1 ≤ id) = false := decide_eq_false h1
  clear hu
  go_enter Try.func3, Try.ntmps3
  go_wp2_with fail
  refine (HU.out _).mono ?_
  rintro e w' ⟨rfl, rfl⟩
  go_wp2_with fail
  refine (HK2.out _).mono ?_
  rintro e w' ⟨rfl, rfl⟩
  go_wp2_with fail
  refine (HI2.out _).mono ?_
  rintro e w' ⟨rfl, rfl⟩
  go_wp2_with fail
  refine (HAW.out _).mono ?_
  rintro e w9 ⟨rfl, hb⟩
  go_wp2
  go_ret
  exact ⟨rfl, hb⟩

set_option maxRecDepth 100000 in
set_option maxHeartbeats 2000000 in
theorem units_t_ok_y (id unit : Int) (h1 : 1 ≤ id) (h2 : id ≤ 200) (hu : isU unit = true) (u1 : -9223372036854775808 ≤ unit) (u2 : unit ≤ 9223372036854775807) (w : World) :
    Calls Try.prog 3 #[.int .i64 id, .bool false, .int .i64 unit] w (RetB (.bool true) w) := by
  have HAW := Lib.hid (fun W => awake_any W)
  obtain ⟨ki, kg, hki, hkg⟩ : ∃ ki kg, kindI unit = ki ∧ kindG unit = kg := ⟨_, _, rfl, rfl⟩
  have HK2 : Hid (∀ W, Calls Try.prog 8 #[.int .i64 unit] W (Ret (.tuple #[.int .i64 ki, .bool kg, .bool true]) W)) := fun W => by
    have := kind_any unit u1 u2 W
    rwa [hu, hki, hkg] at this
  have HI2 : Hid (∀ W, Calls Try.prog 9 #[.int .i64 unit] W (Ret (.bool true) W)) := fun W => by
    have := is_any unit W
    rwa [hu] at this
  have HB2 : Hid (∀ W, Calls Try.prog 7 #[.int .i64 ki, .bool kg] W (Ret (.tuple #[.int .i64 unit, .int .i64 0]) W)) := fun W => by
    have := unit_any ki kg W
    rwa [← hki, ← hkg, (kind_back hu).1, (kind_back hu).2, hki, hkg] at this
  clear hki hkg
  obtain ⟨u, hid⟩ : ∃ u, id = u := ⟨_, rfl⟩
  obtain ⟨k2, k3, k4⟩ := kind_task h1 h2
  have HU : Hid (∀ W, Calls Try.prog 7 #[.int .i64 id, .bool false] W (Ret (.tuple #[.int .i64 u, .int .i64 0]) W)) := fun W => by
    have := unit_any id false W
    unfold unitU unitE at this
    rw [unit_good_t h1 h2, hid] at this
    rw [hid]
    exact this
  rw [hid] at k2 k3 k4
  have k3' : kindI u = id := k3.trans hid.symm
  have hgr : decide (1000 < u) = false := decide_eq_false (by omega)
  have HK1 : Hid (∀ W, Calls Try.prog 8 #[.int .i64 u] W (Ret (.tuple #[.int .i64 id, .bool false, .bool true]) W)) := fun W => by
    have := kind_any u (by omega) (by omega) W
    rwa [k2, k3', k4] at this
  have HI1 : Hid (∀ W, Calls Try.prog 9 #[.int .i64 u] W (Ret (.bool true) W)) := fun W => by
    have := is_any u W
    rwa [k2] at this
  have HG1 : Hid (∀ W, Calls Try.prog 10 #[.int .i64 u] W (Ret (.bool false) W)) := fun W => by
    have := refGroup_any u W
    rwa [hgr] at this
  have g1 : decide (1 ≤ id) = true := decide_eq_true h1
  have g2 : decide (id ≤ 200) = true := decide_eq_true h2
  clear k2 k3 k4 k3' hid hgr hu
  go_enter Try.func3, Try.ntmps3
  go_wp2_with fail
  refine (HU.out _).mono ?_
  rintro e w' ⟨rfl, rfl⟩
  go_wp2_with fail
  refine (HK1.out _).mono ?_
  rintro e w' ⟨rfl, rfl⟩
  go_wp2_with fail
  refine (HI1.out _).mono ?_
  rintro e w' ⟨rfl, rfl⟩
  go_wp2_with fail
  refine (HG1.out _).mono ?_
  rintro e w' ⟨rfl, rfl⟩
  go_wp2_with fail
  refine (HK2.out _).mono ?_
  rintro e w' ⟨rfl, rfl⟩
  go_wp2_with fail
  refine (HI2.out _).mono ?_
  rintro e w' ⟨rfl, rfl⟩
  go_wp2_with fail
  refine (HB2.out _).mono ?_
  rintro e w' ⟨rfl, rfl⟩
  go_wp2_with fail
  refine (HAW.out _).mono ?_
  rintro e w9 ⟨rfl, hb⟩
  go_wp2
  go_ret
  exact ⟨rfl, hb⟩

set_option maxRecDepth 100000 in
set_option maxHeartbeats 2000000 in
theorem units_t_ok_n (id unit : Int) (h1 : 1 ≤ id) (h2 : id ≤ 200) (hu : isU unit = false) (u1 : -9223372036854775808 ≤ unit) (u2 : unit ≤ 9223372036854775807) (w : World) :
    Calls Try.prog 3 #[.int .i64 id, .bool false, .int .i64 unit] w (RetB (.bool true) w) := by
  have HAW := Lib.hid (fun W => awake_any W)
  have HK2 : Hid (∀ W, Calls Try.prog 8 #[.int .i64 unit] W (Ret (.tuple #[.int .i64 0, .bool false, .bool false]) W)) := fun W => by
    have := kind_any unit u1 u2 W
    rwa [hu, (kind_none hu).1, (kind_none hu).2] at this
  have HI2 : Hid (∀ W, Calls Try.prog 9 #[.int .i64 unit] W (Ret (.bool false) W)) := fun W => by
    have := is_any unit W
    rwa [hu] at this
  obtain ⟨u, hid⟩ : ∃ u, id = u := ⟨_, rfl⟩
  obtain ⟨k2, k3, k4⟩ := kind_task h1 h2
  have HU : Hid (∀ W, Calls Try.prog 7 #[.int .i64 id, .bool false] W (Ret (.tuple #[.int .i64 u, .int .i64 0]) W)) := fun W => by
    have := unit_any id false W
    unfold unitU unitE at this
    rw [unit_good_t h1 h2, hid] at this
    rw [hid]
    exact this
  rw [hid] at k2 k3 k4
  have k3' : kindI u = id := k3.trans hid.symm
  have hgr : decide (1000 < u) = false := decide_eq_false (by omega)
  have HK1 : Hid (∀ W, Calls Try.prog 8 #[.int .i64 u] W (Ret (.tuple #[.int .i64 id, .bool false, .bool true]) W)) := fun W => by
    have := kind_any u (by omega) (by omega) W
    rwa [k2, k3', k4] at this
  have HI1 : Hid (∀ W, Calls Try.prog 9 #[.int .i64 u] W (Ret (.bool true) W)) := fun W => by
    have := is_any u W
    rwa [k2] at this
  have HG1 : Hid (∀ W, Calls Try.prog 10 #[.int .i64 u] W (Ret (.bool false) W)) := fun W => by
    have := refGroup_any u W
    rwa [hgr] at this
  have g1 : decide (1 ≤ id) = true := decide_eq_true h1
  have g2 : decide (id ≤ 200) = true := decide_eq_true h2
  clear k2 k3 k4 k3' hid hgr hu
  go_enter Try.func3, Try.ntmps3
  go_wp2_with fail
  refine (HU.out _).mono ?_
  rintro e w' ⟨rfl, rfl⟩
  go_wp2_with fail
  refine (HK1.out _).mono ?_
  rintro e w' ⟨rfl, rfl⟩
  go_wp2_with fail
  refine (HI1.out _).mono ?_
  rintro e w' ⟨rfl, rfl⟩
  go_wp2_with fail
  refine (HG1.out _).mono ?_
  rintro e w' ⟨rfl, rfl⟩
  go_wp2_with fail
  refine (HK2.out _).mono ?_
  rintro e w' ⟨rfl, rfl⟩
  go_wp2_with fail
  refine (HI2.out _).mono ?_
  rintro e w' ⟨rfl, rfl⟩
  go_wp2_with fail
  refine (HAW.out _).mono ?_
  rintro e w9 ⟨rfl, hb⟩
  go_wp2
  go_ret
  exact ⟨rfl, hb⟩

set_option maxRecDepth 100000 in
set_option maxHeartbeats 2000000 in
theorem units_t_big_y (id unit : Int) (h1 : 1 ≤ id) (h2 : ¬ id ≤ 200) (hu : isU unit = true) (u1 : -9223372036854775808 ≤ unit) (u2 : unit ≤ 9223372036854775807) (w : World) :
    Calls Try.prog 3 #[.int .i64 id, .bool false, .int .i64 unit] w (RetB (.bool true) w) := by
  have HAW := Lib.hid (fun W => awake_any W)
  obtain ⟨ki, kg, hki, hkg⟩ : ∃ ki kg, kindI unit = ki ∧ kindG unit = kg := ⟨_, _, rfl, rfl⟩
  have HK2 : Hid (∀ W, Calls Try.prog 8 #[.int .i64 unit] W (Ret (.tuple #[.int .i64 ki, .bool kg, .bool true]) W)) := fun W => by
    have := kind_any unit u1 u2 W
    rwa [hu, hki, hkg] at this
  have HI2 : Hid (∀ W, Calls Try.prog 9 #[.int .i64 unit] W (Ret (.bool true) W)) := fun W => by
    have := is_any unit W
    rwa [hu] at this
  have HB2 : Hid (∀ W, Calls Try.prog 7 #[.int .i64 ki, .bool kg] W (Ret (.tuple #[.int .i64 unit, .int .i64 0]) W)) := fun W => by
    have := unit_any ki kg W
    rwa [← hki, ← hkg, (kind_back hu).1, (kind_back hu).2, hki, hkg] at this
  clear hki hkg
  have HU : Hid (∀ W, Calls Try.prog 7 #[.int .i64 id, .bool false] W (Ret (.tuple #[.int .i64 0, .int .i64 20]) W)) := fun W => by
    have := unit_any id false W
    unfold unitU unitE at this
    rw [unit_bad_t (fun h => h2 h.2)] at this
    exact this
  have g1 : decide (1 ≤ id) = true := decide_eq_true h1
  have g2 : decide (id ≤ 200) = false := decide_eq_false h2
  clear hu
  go_enter Try.func3, Try.ntmps3
  go_wp2_with fail
  refine (HU.out _).mono ?_
  rintro e w' ⟨rfl, rfl⟩
  go_wp2_with fail
  refine (HK2.out _).mono ?_
  rintro e w' ⟨rfl, rfl⟩
  go_wp2_with fail
  refine (HI2.out _).mono ?_
  rintro e w' ⟨rfl, rfl⟩
  go_wp2_with fail
  refine (HB2.out _).mono ?_
  rintro e w' ⟨rfl, rfl⟩
  go_wp2_with fail
  refine (HAW.out _).mono ?_
  rintro e w9 ⟨rfl, hb⟩
  go_wp2
  go_ret
  exact ⟨rfl, hb⟩

set_option maxRecDepth 100000 in
set_option maxHeartbeats 2000000 in
theorem units_t_big_n (id unit : Int) (h1 : 1 ≤ id) (h2 : ¬ id ≤ 200) (hu : isU unit = false) (u1 : -9223372036854775808 ≤ unit) (u2 : unit ≤ 9223372036854775807) (w : World) :
    Calls Try.prog 3 #[.int .i64 id, .bool false, .int .i64 unit] w (RetB (.bool true) w) := by
  have HAW := Lib.hid (fun W => awake_any W)
  have HK2 : Hid (∀ W, Calls Try.prog 8 #[.int .i64 unit] W (Ret (.tuple #[.int .i64 0, .bool false, .bool false]) W)) := fun W => by
    have := kind_any unit u1 u2 W
    rwa [hu, (kind_none hu).1, (kind_none hu).2] at this
  have HI2 : Hid (∀ W, Calls Try.prog 9 #[.int .i64 unit] W (Ret (.bool false) W)) := fun W => by
    have := is_any unit W
    rwa [hu] at this
  have HU : Hid (∀ W, Calls Try.prog 7 #[.int .i64 id, .bool false] W (Ret (.tuple #[.int .i64 0, .int .i64 20]) W)) := fun W => by
    have := unit_any id false W
    unfold unitU unitE at this
    rw [unit_bad_t (fun h => h2 h.2)] at this
    exact this
  have g1 : decide (1 ≤ id) = true := decide_eq_true h1
  have g2 : decide (id ≤ 200) = false := decide_eq_false h2
  clear hu
  go_enter Try.func3, Try.ntmps3
  go_wp2_with fail
  refine (HU.out _).mono ?_
  rintro e w' ⟨rfl, rfl⟩
  go_wp2_with fail
  refine (HK2.out _).mono ?_
  rintro e w' ⟨rfl, rfl⟩
  go_wp2_with fail
  refine (HI2.out _).mono ?_
  rintro e w' ⟨rfl, rfl⟩
  go_wp2_with fail
  refine (HAW.out _).mono ?_
  rintro e w9 ⟨rfl, hb⟩
  go_wp2
  go_ret
  exact ⟨rfl, hb⟩

set_option maxRecDepth 100000 in
set_option maxHeartbeats 2000000 in
theorem units_t_low_y (id unit : Int) (h1 : ¬ 1 ≤ id) (hu : isU unit = true) (u1 : -9223372036854775808 ≤ unit) (u2 : unit ≤ 9223372036854775807) (w : World) :
    Calls Try.prog 3 #[.int .i64 id, .bool false, .int .i64 unit] w (RetB (.bool true) w) := by
  have HAW := Lib.hid (fun W => awake_any W)
  obtain ⟨ki, kg, hki, hkg⟩ : ∃ ki kg, kindI unit = ki ∧ kindG unit = kg := ⟨_, _, rfl, rfl⟩
  have HK2 : Hid (∀ W, Calls Try.prog 8 #[.int .i64 unit] W (Ret (.tuple #[.int .i64 ki, .bool kg, .bool true]) W)) := fun W => by
    have := kind_any unit u1 u2 W
    rwa [hu, hki, hkg] at this
  have HI2 : Hid (∀ W, Calls Try.prog 9 #[.int .i64 unit] W (Ret (.bool true) W)) := fun W => by
    have := is_any unit W
    rwa [hu] at this
  have HB2 : Hid (∀ W, Calls Try.prog 7 #[.int .i64 ki, .bool kg] W (Ret (.tuple #[.int .i64 unit, .int .i64 0]) W)) := fun W => by
    have := unit_any ki kg W
    rwa [← hki, ← hkg, (kind_back hu).1, (kind_back hu).2, hki, hkg] at this
  clear hki hkg
  have HU : Hid (∀ W, Calls Try.prog 7 #[.int .i64 id, .bool false] W (Ret (.tuple #[.int .i64 0, .int .i64 20]) W)) := fun W => by
    have := unit_any id false W
    unfold unitU unitE at this
    rw [unit_bad_t (fun h => h1 h.1)] at this
    exact this
  have g1 : decide (1 ≤ id) = false := decide_eq_false h1
  clear hu
  go_enter Try.func3, Try.ntmps3
  go_wp2_with fail
  refine (HU.out _).mono ?_
  rintro e w' ⟨rfl, rfl⟩
  go_wp2_with fail
  refine (HK2.out _).mono ?_
  rintro e w' ⟨rfl, rfl⟩
  go_wp2_with fail
  refine (HI2.out _).mono ?_
  rintro e w' ⟨rfl, rfl⟩
  go_wp2_with fail
  refine (HB2.out _).mono ?_
  rintro e w' ⟨rfl, rfl⟩
  go_wp2_with fail
  refine (HAW.out _).mono ?_
  rintro e w9 ⟨rfl, hb⟩
  go_wp2
  go_ret
  exact ⟨rfl, hb⟩

set_option maxRecDepth 100000 in
set_option maxHeartbeats 2000000 in
theorem units_t_low_n (id unit : Int) (h1 : ¬ 1 ≤ id) (hu : isU unit = false) (u1 : -9223372036854775808 ≤ unit) (u2 : unit ≤ 9223372036854775807) (w : World) :
    Calls Try.prog 3 #[.int .i64 id, .bool false, .int .i64 unit] w (RetB (.bool true) w) := by
  have HAW := Lib.hid (fun W => awake_any W)
  have HK2 : Hid (∀ W, Calls Try.prog 8 #[.int .i64 unit] W (Ret (.tuple #[.int .i64 0, .bool false, .bool false]) W)) := fun W => by
    have := kind_any unit u1 u2 W
    rwa [hu, (kind_none hu).1, (kind_none hu).2] at this
  have HI2 : Hid (∀ W, Calls Try.prog 9 #[.int .i64 unit] W (Ret (.bool false) W)) := fun W => by
    have := is_any unit W
    rwa [hu] at this
  have HU : Hid (∀ W, Calls Try.prog 7 #[.int .i64 id, .bool false] W (Ret (.tuple #[.int .i64 0, .int .i64 20]) W)) := fun W => by
    have := unit_any id false W
    unfold unitU unitE at this
    rw [unit_bad_t (fun h => h1 h.1)] at this
    exact this
  have g1 : decide (1 ≤ id) = false := decide_eq_false h1
  clear hu
  go_enter Try.func3, Try.ntmps3
  go_wp2_with fail
  refine (HU.out _).mono ?_
  rintro e w' ⟨rfl, rfl⟩
  go_wp2_with fail
  refine (HK2.out _).mono ?_
  rintro e w' ⟨rfl, rfl⟩
  go_wp2_with fail
  refine (HI2.out _).mono ?_
  rintro e w' ⟨rfl, rfl⟩
  go_wp2_with fail
  refine (HAW.out _).mono ?_
  rintro e w9 ⟨rfl, hb⟩
  go_wp2
  go_ret
  exact ⟨rfl, hb⟩

theorem units_law (id : Int) (g : Bool) (unit : Int) (i1 : -9223372036854775808 ≤ id) (i2 : id ≤ 9223372036854775807) (u1 : -9223372036854775808 ≤ unit) (u2 : unit ≤ 9223372036854775807) (w : World) :
    Calls Try.prog 3 #[.int .i64 id, .bool g, .int .i64 unit] w (RetB (.bool true) w) := by
  cases hu : isU unit <;> cases g <;> by_cases h1 : 1 ≤ id
  · by_cases h2 : id ≤ 200
    · exact units_t_ok_n id unit h1 h2 hu u1 u2 w
    · exact units_t_big_n id unit h1 h2 hu u1 u2 w
  · exact units_t_low_n id unit h1 hu u1 u2 w
  · by_cases h2 : id ≤ 40
    · exact units_g_ok_n id unit h1 h2 hu u1 u2 w
    · exact units_g_big_n id unit h1 h2 hu u1 u2 w
  · exact units_g_low_n id unit h1 hu u1 u2 w
  · by_cases h2 : id ≤ 200
    · exact units_t_ok_y id unit h1 h2 hu u1 u2 w
    · exact units_t_big_y id unit h1 h2 hu u1 u2 w
  · exact units_t_low_y id unit h1 hu u1 u2 w
  · by_cases h2 : id ≤ 40
    · exact units_g_ok_y id unit h1 h2 hu u1 u2 w
    · exact units_g_big_y id unit h1 h2 hu u1 u2 w
  · exact units_g_low_y id unit h1 hu u1 u2 w
end Go.Proofs.Ytiikddemjjikfaa
