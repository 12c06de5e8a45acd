/-
  symMerge with one on the right.
  Conditions: the comparison answers by keys.
-/
import Derived.Test.YtnigoojjbljibaaMerge
set_option linter.unusedVariables false
namespace Go.Proofs.Ytnigoojjbljibaa
open Go.RowKit

set_option maxRecDepth 100000 in
set_option maxHeartbeats 2000000 in
theorem symB (W0 W : World) (g n c a m : Nat) (cb : Value) (key : Nat → Int) (d : Nat → Nat) (h : Runs W0 g n a m (m + 1) cb key d W) (hne : m ≠ a + 1) :
    Calls Try.prog 26 #[.slice (some ⟨g, 0, none⟩) n c, .int .i64 a, .int .i64 m, .int .i64 ((m + 1 : Nat) : Int), .func (.func 19) #[] #[cb]] W (Merged W0 g n a (m + 1) key d) := by
  have H := Lib.hid h
  have h1 := h.am
  have h2 := h.bn
  have h3 := h.n64
  clear h
  obtain ⟨b, hb⟩ : ∃ b, b = m + 1 := ⟨_, rfl⟩
  rw [← hb] at H h2 ⊢
  have e1 : (((m : Int) - (a : Int)) == 1) = false := by simp; omega
  have e2 : (((b : Int) - (m : Int)) == 1) = true := by simp; omega
  have haa : a ≤ 64 := by omega
  have hmm : m ≤ 64 := by omega
  have hbb : b ≤ 64 := by omega
  have hmn : m < n := by omega
  have HB := Lib.hid hb
  clear hb hne
  go_enter Try.func26, Try.ntmps26
  go_wp2_with fail
  go_loopg [14, 15] (m - a) (fun q s t wr => SearchA W0 g n a m (fun x => key (d m) ≤ key (d x)) (fun x => key (d x) < key (d m)) d q s t wr)
  case atStart => exact ⟨a, m, rfl, rfl, Nat.le_refl _, by omega, Nat.le_refl _, rfl, H.out.st, .inl rfl, .inl rfl⟩
  case round =>
    obtain ⟨i, j, rfl, rfl, hi, hij, hjb, hq, hst, hT, hF⟩ := hrel
    have HQ := Lib.hid hq
    have HST := Lib.hid hst
    have HT := Lib.hid hT
    have HF := Lib.hid hF
    clear hq hst hT hF
    by_cases hlt : i < j
    · obtain ⟨h, hh⟩ : ∃ h, h = (i + j) / 2 := ⟨_, rfl⟩
      have eh : ((i : Int) + (j : Int)) / 2 = (h : Int) := by omega
      have hih : i ≤ h := by omega
      have hhj : h < j := by omega
      have hhn : h < n := by omega
      have lx := H.out.inb m hmn
      have ly := H.out.inb h hhn
      have hc1 := HST.out.cell (i := m) hmn
      have hc2 := HST.out.cell (i := h) hhn
      obtain ⟨x, hx⟩ : ∃ x, x = d m := ⟨_, rfl⟩
      obtain ⟨y, hy⟩ : ∃ y, y = d h := ⟨_, rfl⟩
      rw [← hx] at hc1 lx
      rw [← hy] at hc2 ly
      have HX := Lib.hid hx
      have HY := Lib.hid hy
      have CC := Lib.hid (fun m => H.out.cmp (wr.drewN m) (HST.out.drewN m).1 x y lx ly)
      clear hh hx hy
      by_cases hk : key y < key x
      · have t1 : decide (cmpI (key y) (key x) < 0) = true := decide_eq_true (cmpI_neg.2 hk)
        have HK := Lib.hid (show key (d h) < key (d m) by rw [← HX.out, ← HY.out]; exact hk)
        clear hk
        go_wp2_with fail
        go_quiet ((go_at_call 19; exact Calls.quiet_of (CC.out _)))
        go_wp2_with fail
        go_roundg (h - i)
        case measure => have := HQ.out; omega
        case rel => exact ⟨i, h, rfl, rfl, hi, hih, by omega, rfl, HST.out.drewN _, HT.out, .inr HK.out⟩
      · have t1 : decide (cmpI (key y) (key x) < 0) = false := decide_eq_false (fun h => hk (cmpI_neg.1 h))
        have HK := Lib.hid (show key (d m) ≤ key (d h) by rw [← HX.out, ← HY.out]; exact Int.not_lt.1 hk)
        clear hk
        go_wp2_with fail
        go_quiet ((go_at_call 19; exact Calls.quiet_of (CC.out _)))
        go_wp2_with fail
        go_roundg (j - (h + 1))
        case measure => have := HQ.out; omega
        case rel => exact ⟨h + 1, j, by go_num, rfl, by omega, by omega, hjb, rfl, HST.out.drewN _, .inr HK.out, HF.out⟩
    · obtain rfl : i = j := by omega
      have HFin : Hid (PermOn a b d (rot i m (m + 1) d) ∧ SortedIn key a b (rot i m (m + 1) d)) := by
        have hb := HB.out
        have ht := H.out.tag
        rw [hb]
        exact one_right H.out.left (fun p h1 h2 => ht p m h1 h2 (Nat.le_refl _) (by omega)) hi hjb (HT.out.imp_right (fun h => Int.not_lt.2 h)) HF.out
      go_wp2_with fail
      go_loopg [17] (m - i) (fun q s wr => ∃ k : Nat, s = .int .i64 k ∧ i ≤ k ∧ k ≤ m ∧ q + i = k ∧ St W0 g n (rot k m (m + 1) d) wr)
      case atStart => exact ⟨m, rfl, hjb, Nat.le_refl _, by omega, by rw [rot_none_left]; exact HST.out⟩
      case round =>
        obtain ⟨k, rfl, hik, hkm, hqk, hst2⟩ := hrel
        have HQK := Lib.hid hqk
        have HST2 := Lib.hid hst2
        clear hqk hst2
        by_cases hlt2 : i < k
        · obtain ⟨kp, rfl⟩ : ∃ kp, k = kp + 1 := ⟨k - 1, by omega⟩
          have t2 : decide (((kp + 1 : Nat) : Int) > (i : Int)) = true := decide_eq_true (by omega)
          have hc1 := HST2.out.cell (i := kp + 1) (by omega)
          have hc2 := HST2.out.cell (i := kp) (by omega)
          have hf1 := HST2.out.frozen (kp + 1)
          have hf2 := HST2.out.frozen kp
          have hnew := Lib.hid ((HST2.out.swp (i := kp + 1) (j := kp) (by omega) (by omega)).drewN 1)
          obtain ⟨x, hx⟩ : ∃ x, x = rot (kp + 1) m (m + 1) d (kp + 1) := ⟨_, rfl⟩
          obtain ⟨y, hy⟩ : ∃ y, y = rot (kp + 1) m (m + 1) d kp := ⟨_, rfl⟩
          rw [← hx] at hc1
          rw [← hy] at hc2
          rw [← hx, ← hy] at hnew
          clear hx hy
          have k0 : IntKind.i64.wrap (kp : Int) = (kp : Int) := by rw [IntKind.wrap_i64]; omega
          have k1 : (kp : Int) + 1 < (n : Int) := by omega
          have k2 : (kp : Int) < (n : Int) := by omega
          have k3 : (0 : Int) ≤ (kp : Int) + 1 := by omega
          have k4 : ((kp : Int) + 1).toNat = kp + 1 := by omega
          have k5 : (i : Int) < (kp : Int) + 1 := by omega
          go_wp2_with fail
          go_region
          all_goals go_wp2_with fail
          all_goals
            go_roundg (kp - i)
            case measure => have := HQK.out; omega
            case rel => exact ⟨kp, by first | rfl | go_num, by omega, by omega, by omega, by rw [← rot_left kp m d (by omega)]; exact hnew.out⟩
        · have hki2 : k = i := by omega
          have t2 : decide ((k : Int) > (i : Int)) = false := decide_eq_false (by omega)
          have HS3 := Lib.hid (show St W0 g n (rot i m (m + 1) d) wr by rw [← hki2]; exact HST2.out)
          go_wp2_with fail
          go_end0
          exact ⟨rfl, _, HS3.out, HFin.out⟩
end Go.Proofs.Ytnigoojjbljibaa
