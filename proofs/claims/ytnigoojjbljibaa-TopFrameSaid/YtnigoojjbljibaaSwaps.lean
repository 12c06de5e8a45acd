/-
  swapRange and rotate: a row of the call's own, exchanged and turned.
  Conditions: the ranges lie in the row.
-/
import Derived.Test.YtnigoojjbljibaaSortMath
import Derived.Test.YtnigoojjbljibaaQuotas
set_option linter.unusedVariables false
namespace Go.Proofs.Ytnigoojjbljibaa
open Go.RowKit

def lst (n : Nat) (d : Nat → Nat) : List Int := (List.range n).map fun i => ((d i : Nat) : Int)
theorem length_lst (n : Nat) (d : Nat → Nat) : (lst n d).length = n := by simp [lst]
theorem lst_at {n i : Nat} (d : Nat → Nat) (h : i < n) : (lst n d)[i]? = some ((d i : Nat) : Int) := by simp [lst, h]
theorem lst_get (n i : Nat) (d : Nat → Nat) : (lst n d)[i]? = if i < n then some ((d i : Nat) : Int) else none := by
  by_cases h : i < n
  · rw [lst_at d h, if_pos h]
  · rw [if_neg h]; exact List.getElem?_eq_none (by rw [length_lst]; omega)
theorem lst_swp {n i j : Nat} (d : Nat → Nat) (hi : i < n) (hj : j < n) : ((lst n d).set i ((d j : Nat) : Int)).set j ((d i : Nat) : Int) = lst n (swp d i j) := by
  apply List.ext_getElem?
  intro k
  rw [List.getElem?_set, List.getElem?_set, List.length_set, length_lst, lst_get, lst_get]
  unfold swp
  by_cases h1 : j = k
  · subst h1
    rw [if_pos rfl, if_pos hj, if_pos hj]
    by_cases h2 : j = i
    · subst h2; rw [if_pos rfl]
    · rw [if_neg h2, if_pos rfl]
  · rw [if_neg h1]
    by_cases h2 : i = k
    · subst h2
      rw [if_pos rfl, if_pos hi, if_pos hi, if_pos rfl]
    · rw [if_neg h2]
      by_cases h3 : k < n
      · rw [if_pos h3, if_pos h3, if_neg (by omega), if_neg (by omega)]
      · rw [if_neg h3, if_neg h3]

/-- The sort's world: all below g as it was in W0, block g the row d. -/
def St (W0 : World) (g n : Nat) (d : Nat → Nat) (W : World) : Prop := Below g W0 W ∧ RowAt W g (lst n d)
theorem St.cell {W0 W : World} {g n : Nat} {d : Nat → Nat} (h : St W0 g n d W) {i : Nat} (hi : i < n) : W.cell? ⟨g, i, none⟩ = some (.int .i64 ((d i : Nat) : Int)) := h.2.cell (lst_at d hi)
theorem St.frozen {W0 W : World} {g n : Nat} {d : Nat → Nat} (h : St W0 g n d W) (i : Nat) : W.frozen? ⟨g, i, none⟩ = false := h.2.frozen i
theorem St.drewN {W0 W : World} {g n : Nat} {d : Nat → Nat} (h : St W0 g n d W) (q : Nat) : St W0 g n d (W.drewN q) := ⟨below_drewN h.1 q, h.2⟩
theorem St.swp {W0 W : World} {g n : Nat} {d : Nat → Nat} (h : St W0 g n d W) {i j : Nat} (hi : i < n) (hj : j < n) :
    St W0 g n (swp d i j) ((W.setCell ⟨g, i, none⟩ (.int .i64 ((d j : Nat) : Int))).setCell ⟨g, j, none⟩ (.int .i64 ((d i : Nat) : Int))) :=
  ⟨(h.1.setCell (Nat.le_refl _) _).setCell (Nat.le_refl _) _, by rw [← lst_swp d hi hj]; exact (h.2.set_ i _).set_ j _⟩
theorem swp_comm (d : Nat → Nat) (i j : Nat) : swp d i j = swp d j i := by
  funext k
  unfold Go.Proofs.Ytnigoojjbljibaa.swp
  by_cases h1 : k = i
  · subst h1; rw [if_pos rfl]
    by_cases h2 : k = j
    · subst h2; rw [if_pos rfl]
    · rw [if_neg h2, if_pos rfl]
  · rw [if_neg h1]
    by_cases h2 : k = j
    · subst h2; rw [if_pos rfl, if_pos rfl]
    · rw [if_neg h2, if_neg h2, if_neg h1]

/-- What a call of the sort's answers. -/
def SortPost (Q : (Nat → Nat) → Prop) (W0 : World) (g n : Nat) (e : Ending) (w' : World) : Prop := e = .returned (.tuple #[]) ∧ ∃ d', St W0 g n d' w' ∧ Q d'

def SwapRel (W0 : World) (g n a b m : Nat) (d : Nat → Nat) (q : Nat) (s : Value) (wr : World) : Prop :=
  ∃ k : Nat, k ≤ m ∧ q = m - k ∧ s = .int .i64 k ∧ St W0 g n (swR a b k d) wr

set_option maxRecDepth 100000 in
set_option maxHeartbeats 1000000 in
theorem swapRange_any (W0 W : World) (g n c a b m : Nat) (d : Nat → Nat) (fv : Value) (hs : St W0 g n d W) (h1 : a + m ≤ b) (h2 : b + m ≤ n) (hn : n ≤ 64) :
    Calls Try.prog 28 #[.slice (some ⟨g, 0, none⟩) n c, .int .i64 a, .int .i64 b, .int .i64 m, fv] W (SortPost (· = swR a b m d) W0 g n) := by
  have HS := Lib.hid hs
  clear hs
  go_enter Try.func28, Try.ntmps28
  go_wp2_with fail
  go_loopg [10] m (fun q s wr => SwapRel W0 g n a b m d q s wr)
  case atStart => exact ⟨0, Nat.zero_le _, rfl, rfl, by rw [swR_zero]; exact HS.out⟩
  case round =>
    obtain ⟨k, hk, hg, rfl, hst⟩ := hrel
    have HG := Lib.hid hg
    have HST := Lib.hid hst
    clear hg hst
    by_cases hlt : k < m
    · have hc1 := HST.out.cell (i := a + k) (by omega)
      have hc2 := HST.out.cell (i := b + k) (by omega)
      have hf1 := HST.out.frozen (a + k)
      have hf2 := HST.out.frozen (b + k)
      have hstep := Lib.hid (swR_step a b k d (by omega))
      have hnew := Lib.hid ((HST.out.swp (i := a + k) (j := b + k) (by omega) (by omega)).drewN 1)
      obtain ⟨x, hx⟩ : ∃ x, x = swR a b k d (a + k) := ⟨_, rfl⟩
      obtain ⟨y, hy⟩ : ∃ y, y = swR a b k d (b + k) := ⟨_, rfl⟩
      rw [← hx] at hc1
      rw [← hy] at hc2
      rw [← hx, ← hy] at hnew
      clear hx hy
      go_wp2_with fail
      go_region
      all_goals go_wp2_with fail
      all_goals
        go_roundg (m - (k + 1))
        case measure => have := HG.out; omega
        case rel => exact ⟨k + 1, by omega, rfl, by go_num, by rw [← hstep.out]; exact hnew.out⟩
    · obtain rfl : k = m := by omega
      go_wp2_with fail
      go_end0
      exact ⟨rfl, _, HST.out, rfl⟩
theorem swapRange_at (W0 W : World) (g n c a b m : Nat) (d : Nat → Nat) (fv : Value) (A B M : Int) (eA : A = (a : Int)) (eB : B = (b : Int)) (eM : M = (m : Int)) (hs : St W0 g n d W) (h1 : a + m ≤ b) (h2 : b + m ≤ n) (hn : n ≤ 64) :
    Calls Try.prog 28 #[.slice (some ⟨g, 0, none⟩) n c, .int .i64 A, .int .i64 B, .int .i64 M, fv] W (SortPost (· = swR a b m d) W0 g n) := by
  subst eA eB eM
  exact swapRange_any W0 W g n c a b m d fv hs h1 h2 hn

def RotRel (W0 : World) (g n a m b : Nat) (d : Nat → Nat) (q : Nat) (s t : Value) (wr : World) : Prop :=
  ∃ (i j : Nat) (dk : Nat → Nat), 0 < i ∧ 0 < j ∧ i + a ≤ m ∧ m + j ≤ b ∧ q = i + j ∧ s = .int .i64 i ∧ t = .int .i64 j ∧ St W0 g n dk wr ∧ rot (m - i) m (m + j) dk = rot a m b d

set_option maxRecDepth 100000 in
set_option maxHeartbeats 1000000 in
theorem rotate_any (W0 W : World) (g n c a m b : Nat) (d : Nat → Nat) (fv : Value) (hs : St W0 g n d W) (h1 : a < m) (h2 : m < b) (h3 : b ≤ n) (hn : n ≤ 64) :
    Calls Try.prog 27 #[.slice (some ⟨g, 0, none⟩) n c, .int .i64 a, .int .i64 m, .int .i64 b, fv] W (SortPost (· = rot a m b d) W0 g n) := by
  have HS := Lib.hid hs
  clear hs
  have e1 := Lib.hid (show ((m : Int) - (a : Int)) = ((m - a : Nat) : Int) by omega)
  have e2 := Lib.hid (show ((b : Int) - (m : Int)) = ((b - m : Nat) : Int) by omega)
  go_enter Try.func27, Try.ntmps27
  go_wp2_with fail
  rw [e1.out, e2.out]
  go_loopg [10, 11] (b - a) (fun q s t wr => RotRel W0 g n a m b d q s t wr)
  case atStart => exact ⟨m - a, b - m, d, by omega, by omega, by omega, by omega, by omega, rfl, rfl, HS.out, by rw [show m - (m - a) = a by omega, show m + (b - m) = b by omega]⟩
  case round =>
    obtain ⟨i, j, dk, hi, hj, hia, hjb, hg, rfl, rfl, hst, hrot⟩ := hrel
    have HG := Lib.hid hg
    have HST := Lib.hid hst
    have HR := Lib.hid hrot
    clear hg hst hrot
    by_cases heq : i = j
    · subst heq
      have t1 : ((i : Int) != (i : Int)) = false := by simp
      go_wp2_with fail
      refine (swapRange_at W0 wr g n c (m - i) m i dk fv _ _ _ (by omega) rfl rfl HST.out (by omega) (by omega) hn).mono ?_
      rintro e w1 ⟨rfl, d1, hst1, hd1⟩
      have HD := Lib.hid hd1
      have HS1 := Lib.hid hst1
      clear hd1 hst1
      go_wp2_with fail
      go_end0
      exact ⟨rfl, _, HS1.out, by rw [HD.out, ← HR.out]; exact rot_same m i dk (by omega)⟩
    · have t1 : ((i : Int) != (j : Int)) = true := by simp; omega
      have t2 : ((i : Int) == (j : Int)) = false := by simp; omega
      have hne := Lib.hid heq
      clear heq
      by_cases hlt : j < i
      · have t3 : decide ((j : Int) < (i : Int)) = true := decide_eq_true (by omega)
        have e3 := Lib.hid (show ((i : Int) - (j : Int)) = ((i - j : Nat) : Int) by omega)
        go_wp2_with fail
        refine (swapRange_at W0 wr g n c (m - i) m j dk fv _ _ _ (by omega) rfl rfl HST.out (by omega) (by omega) hn).mono ?_
        rintro e w1 ⟨rfl, d1, hst1, hd1⟩
        have HD := Lib.hid hd1
        have HS1 := Lib.hid hst1
        clear hd1 hst1
        go_wp2_with fail
        rw [e3.out]
        go_roundg (i - j + j)
        case measure => have := HG.out; omega
        case rel => exact ⟨i - j, j, d1, by omega, hj, by omega, hjb, rfl, rfl, rfl, HS1.out, by rw [HD.out, rot_more m i j dk (by omega) hj hlt]; exact HR.out⟩
      · have t3 : decide ((j : Int) < (i : Int)) = false := decide_eq_false (by omega)
        have hlt' : i < j := by have := hne.out; omega
        have e3 := Lib.hid (show ((j : Int) - (i : Int)) = ((j - i : Nat) : Int) by omega)
        go_wp2_with fail
        refine (swapRange_at W0 wr g n c (m - i) (m + j - i) i dk fv _ _ _ (by omega) (by omega) rfl HST.out (by omega) (by omega) hn).mono ?_
        rintro e w1 ⟨rfl, d1, hst1, hd1⟩
        have HD := Lib.hid hd1
        have HS1 := Lib.hid hst1
        clear hd1 hst1
        go_wp2_with fail
        rw [e3.out]
        go_roundg (i + (j - i))
        case measure => have := HG.out; omega
        case rel => exact ⟨i, j - i, d1, hi, by omega, hia, by omega, rfl, rfl, rfl, HS1.out, by rw [HD.out, rot_less m i j dk (by omega) hi hlt']; exact HR.out⟩
end Go.Proofs.Ytnigoojjbljibaa
