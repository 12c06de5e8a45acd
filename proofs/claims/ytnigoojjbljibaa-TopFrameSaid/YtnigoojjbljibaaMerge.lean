/-
  symMerge: two sorted runs side by side become one.
  Conditions: the comparison answers by keys.
-/
import Derived.Test.YtnigoojjbljibaaMergeMath
set_option linter.unusedVariables false
namespace Go.Proofs.Ytnigoojjbljibaa
open Go.RowKit

/-- What symMerge is given. -/
structure Runs (W0 : World) (g n a m b : Nat) (cb : Value) (key : Nat → Int) (d : Nat → Nat) (W : World) : Prop where
  cmp : CmpOk W0 g n cb key
  st : St W0 g n d W
  inb : InB n d
  am : a < m
  mb : m < b
  bn : b ≤ n
  n64 : n ≤ 64
  left : SortedIn key a m d
  right : SortedIn key m b d
  tag : ∀ p q, a ≤ p → p < m → m ≤ q → q < b → d p < d q

def Merged (W0 : World) (g n a b : Nat) (key : Nat → Int) (d : Nat → Nat) (e : Ending) (w' : World) : Prop := SortPost (fun d' => PermOn a b d d' ∧ SortedIn key a b d') W0 g n e w'

def SearchA (W0 : World) (g n m b : Nat) (T F : Nat → Prop) (d : Nat → Nat) (q : Nat) (s t : Value) (wr : World) : Prop :=
  ∃ i j : Nat, s = .int .i64 i ∧ t = .int .i64 j ∧ m ≤ i ∧ i ≤ j ∧ j ≤ b ∧ q = j - i ∧ St W0 g n d wr ∧ (i = m ∨ T (i - 1)) ∧ (j = b ∨ F j)

set_option maxRecDepth 100000 in
set_option maxHeartbeats 2000000 in
theorem symA (W0 W : World) (g n c a b : Nat) (cb : Value) (key : Nat → Int) (d : Nat → Nat) (h : Runs W0 g n a (a + 1) b cb key d W) :
    Calls Try.prog 26 #[.slice (some ⟨g, 0, none⟩) n c, .int .i64 a, .int .i64 ((a + 1 : Nat) : Int), .int .i64 b, .func (.func 19) #[] #[cb]] W (Merged W0 g n a b key d) := by
  have H := Lib.hid h
  have h1 := h.mb
  have h2 := h.bn
  have h3 := h.n64
  clear h
  obtain ⟨m, hm⟩ : ∃ m, m = a + 1 := ⟨_, rfl⟩
  rw [← hm] at H h1 ⊢
  have e1 : (((m : Int) - (a : Int)) == 1) = true := by simp; omega
  have hma : m ≤ 64 := by omega
  have haa : a ≤ 64 := by omega
  have HM := Lib.hid hm
  clear hm
  go_enter Try.func26, Try.ntmps26
  go_wp2_with fail
  go_loopg [10, 11] (b - m) (fun q s t wr => SearchA W0 g n m b (fun x => key (d a) < key (d x)) (fun x => key (d x) ≤ key (d a)) d q s t wr)
  case atStart => exact ⟨m, b, rfl, rfl, Nat.le_refl _, by omega, Nat.le_refl _, rfl, H.out.st, .inl rfl, .inl rfl⟩
  case round =>
    obtain ⟨i, j, rfl, rfl, hi, hij, hjb, hq, hst, hT, hF⟩ := hrel
    have HQ := Lib.hid hq
    have HST := Lib.hid hst
    have HT := Lib.hid hT
    have HF := Lib.hid hF
    clear hq hst hT hF
    by_cases hlt : i < j
    · obtain ⟨h, hh⟩ : ∃ h, h = (i + j) / 2 := ⟨_, rfl⟩
      have eh : ((i : Int) + (j : Int)) / 2 = (h : Int) := by omega
      have hih : i ≤ h := by omega
      have hhj : h < j := by omega
      have hhn : h < n := by omega
      have han : a < n := by have := HM.out; omega
      have lx := H.out.inb h hhn
      have ly := H.out.inb a han
      have hc1 := HST.out.cell (i := h) hhn
      have hc2 := HST.out.cell (i := a) han
      obtain ⟨x, hx⟩ : ∃ x, x = d h := ⟨_, rfl⟩
      obtain ⟨y, hy⟩ : ∃ y, y = d a := ⟨_, rfl⟩
      rw [← hx] at hc1 lx
      rw [← hy] at hc2 ly
      have HX := Lib.hid hx
      have HY := Lib.hid hy
      have CC := Lib.hid (fun m => H.out.cmp (wr.drewN m) (HST.out.drewN m).1 x y lx ly)
      clear hh hx hy
      by_cases hk : key y < key x
      · have t1 : decide (cmpI (key y) (key x) < 0) = true := decide_eq_true (cmpI_neg.2 hk)
        have HK := Lib.hid (show key (d a) < key (d h) by rw [← HX.out, ← HY.out]; exact hk)
        clear hk
        go_wp2_with fail
        go_quiet ((go_at_call 19; exact Calls.quiet_of (CC.out _)))
        go_wp2_with fail
        go_roundg (j - (h + 1))
        case measure => have := HQ.out; omega
        case rel => exact ⟨h + 1, j, by go_num, rfl, by omega, by omega, hjb, rfl, HST.out.drewN _, .inr HK.out, HF.out⟩
      · have t1 : decide (cmpI (key y) (key x) < 0) = false := decide_eq_false (fun h => hk (cmpI_neg.1 h))
        have HK := Lib.hid (show key (d h) ≤ key (d a) by rw [← HX.out, ← HY.out]; exact Int.not_lt.1 hk)
        clear hk
        go_wp2_with fail
        go_quiet ((go_at_call 19; exact Calls.quiet_of (CC.out _)))
        go_wp2_with fail
        go_roundg (h - i)
        case measure => have := HQ.out; omega
        case rel => exact ⟨i, h, rfl, rfl, hi, hih, by omega, rfl, HST.out.drewN _, HT.out, .inr HK.out⟩
    · obtain rfl : i = j := by omega
      have HFin : Hid (PermOn a b d (rot a (a + 1) i d) ∧ SortedIn key a b (rot a (a + 1) i d)) := by
        have hm := HM.out
        have hr := H.out.right
        have ht := H.out.tag
        have hTT := HT.out
        rw [hm] at hr ht hTT
        exact one_left hr (fun q h1 h2 => ht a q (Nat.le_refl _) (by omega) h1 h2) (by omega) hjb hTT (HF.out.imp_right (fun h => Int.not_lt.2 h))
      have hai : a + 1 ≤ i := by have := HM.out; omega
      go_wp2_with fail
      go_loopg [13] (i - a) (fun q s wr => ∃ k : Nat, s = .int .i64 k ∧ a ≤ k ∧ k + 1 ≤ i ∧ q + k = i ∧ St W0 g n (rot a (a + 1) (k + 1) d) wr)
      case atStart => exact ⟨a, rfl, Nat.le_refl _, hai, by omega, by rw [rot_none_right a (a + 1) d (by omega)]; exact HST.out⟩
      case round =>
        obtain ⟨k, rfl, hak, hki, hqk, hst2⟩ := hrel
        have HQK := Lib.hid hqk
        have HST2 := Lib.hid hst2
        clear hqk hst2
        by_cases hlt2 : k + 1 < i
        · have t2 : decide ((k : Int) < (i : Int) - 1) = true := decide_eq_true (by omega)
          have hc1 := HST2.out.cell (i := k) (by omega)
          have hc2 := HST2.out.cell (i := k + 1) (by omega)
          have hf1 := HST2.out.frozen k
          have hf2 := HST2.out.frozen (k + 1)
          have hnew := Lib.hid ((HST2.out.swp (i := k) (j := k + 1) (by omega) (by omega)).drewN 1)
          obtain ⟨x, hx⟩ : ∃ x, x = rot a (a + 1) (k + 1) d k := ⟨_, rfl⟩
          obtain ⟨y, hy⟩ : ∃ y, y = rot a (a + 1) (k + 1) d (k + 1) := ⟨_, rfl⟩
          rw [← hx] at hc1
          rw [← hy] at hc2
          rw [← hx, ← hy] at hnew
          clear hx hy
          have k1 : (k : Int) + 1 < (n : Int) := by omega
          have k2 : (k : Int) < (n : Int) := by omega
          have k3 : (0 : Int) ≤ (k : Int) + 1 := by omega
          have k4 : ((k : Int) + 1).toNat = k + 1 := by omega
          go_wp2_with fail
          go_region
          all_goals go_wp2_with fail
          all_goals
            go_roundg (i - (k + 1))
            case measure => have := HQK.out; omega
            case rel => exact ⟨k + 1, by go_num, by omega, by omega, by omega, by rw [← rot_right a k d hak]; exact hnew.out⟩
        · have t2 : decide ((k : Int) < (i : Int) - 1) = false := decide_eq_false (by omega)
          have hki2 : k + 1 = i := by omega
          have HS3 := Lib.hid (show St W0 g n (rot a (a + 1) i d) wr by rw [← hki2]; exact HST2.out)
          go_wp2_with fail
          go_end0
          exact ⟨rfl, _, HS3.out, HFin.out⟩
end Go.Proofs.Ytnigoojjbljibaa
