/-
  cmp.Compare, cmp.Or, the program's compare and Ahead, the document's Ahead.
  Conditions: none.
-/
import Derived.Test.YtiikddemjjikfaaOrderMath
import Derived.Test.YtiikddemjjikfaaIndex
import Derived.Shelf.SlSortCmp.QuietGrown
set_option linter.unusedVariables false
namespace Go.Proofs.Ytiikddemjjikfaa
open Go.RowKit Go.Sort

/-- What a call answers that leaves all as it was. -/
def Ret (v : Value) (w : World) (e : Ending) (w' : World) : Prop := e = .returned v ∧ w = w'
theorem ret_int {a b : Int} (h : a = b) : (Ending.returned (.int .i64 a)) = .returned (.int .i64 b) := by rw [h]
def cmpI (p q : Int) : Int := if p < q then -1 else if q < p then 1 else 0

theorem isNaN_any (a : Int) (w : World) : Calls Try.prog 56 #[.int .i64 a] w (Ret (.bool false) w) := by
  have h : (a != a) = false := by simp
  go_enter Try.func56, Try.ntmps56
  go_wp2
  go_ret
  exact ⟨rfl, rfl⟩

theorem compareInt_any (p q : Int) (w : World) : Calls Try.prog 43 #[.int .i64 p, .int .i64 q] w (Ret (.int .i64 (cmpI p q)) w) := by
  by_cases h1 : p < q
  · have e : Hid (cmpI p q = -1) := by show _ = _; unfold cmpI; rw [if_pos h1]
    go_enter Try.func43, Try.ntmps43
    go_wp2_with (go_at_call 56; refine (isNaN_any _ _).mono ?_; rintro e w' ⟨rfl, rfl⟩)
    go_ret
    exact ⟨ret_int e.out.symm, rfl⟩
  · have h1' : q ≤ p := by omega
    by_cases h2 : q < p
    · have e : Hid (cmpI p q = 1) := by show _ = _; unfold cmpI; rw [if_neg h1, if_pos h2]
      clear h1
      go_enter Try.func43, Try.ntmps43
      go_wp2_with (go_at_call 56; refine (isNaN_any _ _).mono ?_; rintro e w' ⟨rfl, rfl⟩)
      go_ret
      exact ⟨ret_int e.out.symm, rfl⟩
    · have h2' : p ≤ q := by omega
      have e : Hid (cmpI p q = 0) := by show _ = _; unfold cmpI; rw [if_neg h1, if_neg h2]
      clear h1 h2
      go_enter Try.func43, Try.ntmps43
      go_wp2_with (go_at_call 56; refine (isNaN_any _ _).mono ?_; rintro e w' ⟨rfl, rfl⟩)
      go_ret
      exact ⟨ret_int e.out.symm, rfl⟩

def orI (x y : Int) : Int := if x = 0 then y else x
theorem or_any (W : World) (b : Nat) (x y : Int) (c0 : W.cell? ⟨b, 0, none⟩ = some (.int .i64 x)) (c1 : W.cell? ⟨b, 1, none⟩ = some (.int .i64 y)) :
    Calls Try.prog 42 #[.slice (some ⟨b, 0, none⟩) 2 2] W (Ret (.int .i64 (orI x y)) W) := by
  by_cases hx : x = 0
  · by_cases hy : y = 0
    · have HR : Hid (orI x y = 0) := by show _ = _; unfold orI; rw [if_pos hx, hy]
      subst hx hy
      go_enter Try.func42, Try.ntmps42
      go_wp2_with fail
      go_loopg [5, 8] 2 (fun g _ s8 wr => wr = W ∧ ((g = 2 ∧ s8 = .int .i64 0) ∨ (g = 1 ∧ s8 = .int .i64 1) ∨ (g = 0 ∧ s8 = .int .i64 2)))
      case atStart => exact ⟨rfl, .inl ⟨rfl, rfl⟩⟩
      case round =>
        obtain ⟨hw, h | h | h⟩ := hrel
        · obtain ⟨rfl, rfl⟩ := h
          subst hw
          go_wp2_with fail
          go_roundg 1
          case measure => decide
          case rel => exact ⟨rfl, .inr (.inl ⟨rfl, by go_num⟩)⟩
        · obtain ⟨rfl, rfl⟩ := h
          subst hw
          go_wp2_with fail
          go_roundg 0
          case measure => decide
          case rel => exact ⟨rfl, .inr (.inr ⟨rfl, by go_num⟩)⟩
        · obtain ⟨rfl, rfl⟩ := h
          subst hw
          go_wp2
          go_ret
          exact ⟨ret_int HR.out.symm, rfl⟩
    · have HR : Hid (orI x y = y) := by show _ = _; unfold orI; rw [if_pos hx]
      subst hx
      have hyb : (y != 0) = true := by simpa using hy
      clear hy
      go_enter Try.func42, Try.ntmps42
      go_wp2_with fail
      go_loopg [5, 8] 2 (fun g _ s8 wr => wr = W ∧ ((g = 2 ∧ s8 = .int .i64 0) ∨ (g = 1 ∧ s8 = .int .i64 1)))
      case atStart => exact ⟨rfl, .inl ⟨rfl, rfl⟩⟩
      case round =>
        obtain ⟨hw, h | h⟩ := hrel
        · obtain ⟨rfl, rfl⟩ := h
          subst hw
          go_wp2_with fail
          go_roundg 1
          case measure => decide
          case rel => exact ⟨rfl, .inr ⟨rfl, by go_num⟩⟩
        · obtain ⟨rfl, rfl⟩ := h
          subst hw
          go_wp2
          go_ret
          exact ⟨ret_int HR.out.symm, rfl⟩
  · have HR : Hid (orI x y = x) := by show _ = _; unfold orI; rw [if_neg hx]
    have hxb : (x != 0) = true := by simpa using hx
    clear hx
    go_enter Try.func42, Try.ntmps42
    go_wp2_with fail
    go_loopg [5, 8] 2 (fun g _ s8 wr => wr = W ∧ (g = 2 ∧ s8 = .int .i64 0))
    case atStart => exact ⟨rfl, rfl, rfl⟩
    case round =>
      obtain ⟨hw, rfl, rfl⟩ := hrel
      subst hw
      go_wp2
      go_ret
      exact ⟨ret_int HR.out.symm, rfl⟩

/-- The order of the sort. -/
def cmpS (a b : Sp) : Int := orI (cmpI b.2 a.2) (cmpI a.1 b.1)
theorem cmpS_neg (a b : Sp) : decide (cmpS a b < 0) = aheadB a b := by
  unfold cmpS orI cmpI aheadB
  by_cases h1 : b.2 < a.2
  · simp [h1]
  · by_cases h2 : a.2 < b.2
    · simp [h1, h2]; omega
    · have e : a.2 = b.2 := by omega
      by_cases h3 : a.1 < b.1
      · simp [e, h3]
      · by_cases h4 : b.1 < a.1 <;> simp [e, h3, h4]

set_option maxRecDepth 100000 in
set_option maxHeartbeats 2000000 in
theorem compare_any (x y : Sp) (W : World) : Calls Try.prog 32 #[.agg #[.int .i64 x.1, .int .i64 x.2], .agg #[.int .i64 y.1, .int .i64 y.2]] W fun e w' => e = .returned (.int .i64 (cmpS x y)) ∧ ∃ q os', w' = grow (W.drewN q) os' := by
  have HC := Lib.hid (fun p q W => compareInt_any p q W)
  have HO := Lib.hid (fun W b x y c0 c1 => or_any W b x y c0 c1)
  have mixed : Try.prog.follows .mixedOrders = true := by kernel_rfl
  obtain ⟨x1, x2⟩ := x
  obtain ⟨y1, y2⟩ := y
  unfold cmpS
  simp only
  clear HC
  obtain ⟨cN, hcN⟩ : ∃ f : Int → Int → Int, cmpI = f := ⟨_, rfl⟩
  have HC : Hid (∀ p q W, Calls Try.prog 43 #[.int .i64 p, .int .i64 q] W (Ret (.int .i64 (cN p q)) W)) := by
    intro p q W; rw [← hcN]; exact compareInt_any p q W
  rw [hcN]
  clear hcN
  have HOW : Hid (Calls Try.prog 42 #[.slice (some ⟨W.heap.size + 1 + 1, 0, none⟩) 2 2] (((W.alloc (.cells #[.int .i64 x1, .int .i64 x2] 38)).alloc (.cells #[.int .i64 y1, .int .i64 y2] 38)).alloc (.cells #[.int .i64 (cN y2 x2), .int .i64 (cN x1 y1)] 3)).drew
      (Ret (.int .i64 (orI (cN y2 x2) (cN x1 y1))) (((W.alloc (.cells #[.int .i64 x1, .int .i64 x2] 38)).alloc (.cells #[.int .i64 y1, .int .i64 y2] 38)).alloc (.cells #[.int .i64 (cN y2 x2), .int .i64 (cN x1 y1)] 3)).drew)) :=
    HO.out _ _ _ _ (news_two _ (W.heap.size + 1 + 1) (by simp) 3 (cN y2 x2) (cN x1 y1) 0 _ rfl) (news_two _ (W.heap.size + 1 + 1) (by simp) 3 (cN y2 x2) (cN x1 y1) 1 _ rfl)
  generalize orI (cN y2 x2) (cN x1 y1) = rr at *
  clear HO
  go_enter Try.func32, Try.ntmps32
  go_wp2_with fail
  go_region_held3 (fun w' => w'.cell? ⟨W.heap.size, 0, none⟩ = some (.int .i64 x1) ∧ w'.cell? ⟨W.heap.size, 1, none⟩ = some (.int .i64 x2) ∧ w'.cell? ⟨W.heap.size + 1, 0, none⟩ = some (.int .i64 y1) ∧ w'.cell? ⟨W.heap.size + 1, 1, none⟩ = some (.int .i64 y2))
    (go_keep)
    (first
      | (go_at_call 43; refine (HC.out _ _ _).mono ?_; rintro e w' ⟨rfl, rfl⟩)
      | (go_at_call 42; refine HOW.out.mono ?_; rintro e w' ⟨rfl, rfl⟩))
  all_goals
    go_wp2
    go_ret
    exact ⟨rfl, 1, _, by rw [alloc_eq_grow, alloc_eq_grow, alloc_eq_grow, grow_grow, grow_grow]; rfl⟩

/-- compare's answer, all that was left as it was. -/
theorem below_growN {B : Nat} {a W : World} (h : Go.RowKit.Below B a W) (hB : B ≤ W.heap.size) (n : Nat) (os : Array Obj) : Go.RowKit.Below B a (grow (W.drewN n) os) := by
  refine h.trans ⟨rfl, rfl, rfl, ?_, fun k hk => ?_⟩
  · show W.heap.size ≤ (W.heap ++ os).size
    simp
  · show (W.heap ++ os)[k]? = _
    rw [Array.getElem?_append_left (by omega)]
theorem ahead_any (x y : Sp) (W : World) : Calls Try.prog 23 #[.agg #[.int .i64 x.1, .int .i64 x.2], .agg #[.int .i64 y.1, .int .i64 y.2]] W (RetB (.bool (aheadB x y)) W) := by
  have HC := Lib.hid (fun W => compare_any x y W)
  have hd := cmpS_neg x y
  obtain ⟨x1, x2⟩ := x
  obtain ⟨y1, y2⟩ := y
  simp only at HC
  generalize cmpS (x1, x2) (y1, y2) = c at *
  generalize aheadB (x1, x2) (y1, y2) = r at *
  go_enter Try.func23, Try.ntmps23
  go_wp2_with (go_at_call 32; refine (HC.out _).mono ?_; rintro e w' ⟨rfl, q, os', rfl⟩)
  all_goals go_ret
  all_goals refine ⟨by simp_all, below_growN (((Below.refl _ _).alloc (Nat.le_refl _) _).alloc (by simp) _) (by simp; omega) _ _⟩

theorem refAhead_any (x y : Sp) (W : World) : Calls Try.prog 24 #[.agg #[.int .i64 x.1, .int .i64 x.2], .agg #[.int .i64 y.1, .int .i64 y.2]] W (RetB (.bool (aheadB x y)) W) := by
  obtain ⟨x1, x2⟩ := x
  obtain ⟨y1, y2⟩ := y
  unfold aheadB
  simp only
  by_cases h1 : y2 < x2
  · have g1 : decide (y2 < x2) = true := decide_eq_true h1
    rw [g1, Bool.true_or]
    go_enter Try.func24, Try.ntmps24
    go_wp2
    go_ret
    exact ⟨by simp_all, ((Below.refl _ _).alloc (Nat.le_refl _) _).alloc (by simp) _⟩
  · have g1 : decide (y2 < x2) = false := decide_eq_false h1
    rw [g1, Bool.false_or]
    by_cases h2 : x2 = y2
    · have g2 : (x2 == y2) = true := by simpa using h2
      have g2' : decide (x2 = y2) = true := decide_eq_true h2
      rw [g2', Bool.true_and]
      clear g2'
      go_enter Try.func24, Try.ntmps24
      go_wp2
      go_ret
      exact ⟨by simp_all, ((Below.refl _ _).alloc (Nat.le_refl _) _).alloc (by simp) _⟩
    · have g2 : (x2 == y2) = false := by simpa using h2
      have g2' : decide (x2 = y2) = false := decide_eq_false h2
      rw [g2', Bool.false_and]
      clear g2'
      go_enter Try.func24, Try.ntmps24
      go_wp2
      go_ret
      exact ⟨by simp_all, ((Below.refl _ _).alloc (Nat.le_refl _) _).alloc (by simp) _⟩
end Go.Proofs.Ytiikddemjjikfaa
