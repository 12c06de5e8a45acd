/-
  Insertion sort of a range of indices that rise: sorted by falling keys, then by themselves.
  Conditions: the comparison answers by keys.
-/
import Derived.Test.YtnigoojjbljibaaLess
set_option linter.unusedVariables false
namespace Go.Proofs.Ytnigoojjbljibaa
open Go.RowKit

def InB (n : Nat) (d : Nat → Nat) : Prop := ∀ i, i < n → d i < n
theorem PermOn.inB {a b n : Nat} {d e : Nat → Nat} (h : PermOn a b d e) (hb : b ≤ n) (hi : InB n d) : InB n e := fun i hin =>
  (h.mono (Nat.zero_le a) hb).all (Q := fun x => x < n) (fun i _ h => hi i h) i (Nat.zero_le _) hin

section
variable {key : Nat → Int} {a b i j : Nat} {d dj : Nat → Nat}
/-- [a, i] is sorted, but for what stands at j, which goes before all behind it, and is the greatest of all by itself. -/
def InsAt (key : Nat → Int) (a i j : Nat) (d : Nat → Nat) : Prop :=
  (∀ p q, a ≤ p → p < q → q < i + 1 → p ≠ j → q ≠ j → bef key (d p) (d q)) ∧ (∀ q, j < q → q < i + 1 → bef key (d j) (d q)) ∧ (∀ p, a ≤ p → p < i + 1 → p ≠ j → d p < d j)

theorem insAt_start (hs : SortedIn key a i d) (ht : ∀ p, a ≤ p → p < i → d p < d i) : InsAt key a i i d :=
  ⟨fun p q h1 h2 h3 h4 h5 => hs p q h1 h2 (by omega), fun q h1 h2 => by omega, fun p h1 h2 h3 => ht p h1 (by omega)⟩

theorem insAt_stop (haj : a ≤ j) (hji : j ≤ i) (h : InsAt key a i j d) (hstop : j = a ∨ ¬ key (d (j - 1)) < key (d j)) : SortedIn key a (i + 1) d := by
  obtain ⟨h1, h2, h3⟩ := h
  have left : ∀ p, a ≤ p → p < j → bef key (d p) (d j) := by
    intro p hp hq
    rcases hstop with rfl | hk
    · omega
    · have hb : bef key (d (j - 1)) (d j) := bef_tag hk (h3 (j - 1) (by omega) (by omega) (by omega))
      rcases Nat.lt_or_ge p (j - 1) with hlt | hge
      · exact (h1 p (j - 1) hp hlt (by omega) (by omega) (by omega)).trans hb
      · obtain rfl : p = j - 1 := by omega
        exact hb
  intro p q hp hpq hq
  by_cases e1 : p = j
  · subst e1; exact h2 q hpq hq
  · by_cases e2 : q = j
    · subst e2; exact left p hp hpq
    · exact h1 p q hp hpq hq e1 e2

theorem insAt_step (haj : a ≤ j) (hji : j + 1 ≤ i) (h : InsAt key a i (j + 1) d) (hk : key (d j) < key (d (j + 1))) : InsAt key a i j (swp d (j + 1) j) := by
  obtain ⟨h1, h2, h3⟩ := h
  have e0 : swp d (j + 1) j j = d (j + 1) := by unfold swp; rw [if_neg (by omega), if_pos rfl]
  have e1 : swp d (j + 1) j (j + 1) = d j := by unfold swp; rw [if_pos rfl]
  have e2 : ∀ k, k ≠ j → k ≠ j + 1 → swp d (j + 1) j k = d k := fun k h h' => by unfold swp; rw [if_neg h', if_neg h]
  refine ⟨fun p q hp hpq hq hpj hqj => ?_, fun q hq hqi => ?_, fun p hp hpi hpj => ?_⟩
  · by_cases c1 : p = j + 1
    · subst c1
      rw [e1, e2 q (by omega) (by omega)]
      exact h1 j q haj (by omega) hq (by omega) (by omega)
    · by_cases c2 : q = j + 1
      · subst c2
        rw [e1, e2 p hpj c1]
        exact h1 p j hp (by omega) (by omega) (by omega) (by omega)
      · rw [e2 p hpj c1, e2 q hqj c2]
        exact h1 p q hp hpq hq c1 c2
  · rw [e0]
    by_cases c : q = j + 1
    · subst c; rw [e1]; exact bef_lt hk
    · rw [e2 q (by omega) c]; exact h2 q (by omega) hqi
  · rw [e0]
    by_cases c : p = j + 1
    · subst c; rw [e1]; exact h3 j haj (by omega) (by omega)
    · rw [e2 p hpj c]; exact h3 p hp hpi c
end

def InsRel (W0 : World) (g n a b : Nat) (key : Nat → Int) (d : Nat → Nat) (q : Nat) (s : Value) (wr : World) : Prop :=
  ∃ (i : Nat) (dk : Nat → Nat), s = .int .i64 i ∧ a < i ∧ i ≤ b + 1 ∧ q + i = b + 1 ∧ St W0 g n dk wr ∧ (i ≤ b → PermOn a i d dk ∧ SortedIn key a i dk) ∧ (b < i → dk = d ∧ b = a)

def InsRel2 (W0 : World) (g n a i : Nat) (key : Nat → Int) (dk : Nat → Nat) (q : Nat) (s : Value) (wr : World) : Prop :=
  ∃ (j : Nat) (dj : Nat → Nat), s = .int .i64 j ∧ a ≤ j ∧ j ≤ i ∧ q = j ∧ St W0 g n dj wr ∧ PermOn a (i + 1) dk dj ∧ InsAt key a i j dj

set_option maxRecDepth 100000 in
set_option maxHeartbeats 2000000 in
theorem insertion_any (W0 W : World) (g n c a b : Nat) (cb : Value) (key : Nat → Int) (d : Nat → Nat) (hcmp : CmpOk W0 g n cb key) (hs : St W0 g n d W) (hin : InB n d) (hab : a ≤ b) (hb : b ≤ n) (hn : n ≤ 64)
    (hup : ∀ i j, a ≤ i → i < j → j < b → d i < d j) :
    Calls Try.prog 25 #[.slice (some ⟨g, 0, none⟩) n c, .int .i64 a, .int .i64 b, .func (.func 19) #[] #[cb]] W
      (SortPost (fun d' => PermOn a b d d' ∧ SortedIn key a b d') W0 g n) := by
  have HS := Lib.hid hs
  have HC := Lib.hid hcmp
  have HIN := Lib.hid hin
  have HUP := Lib.hid hup
  clear hs hcmp hin hup
  go_enter Try.func25, Try.ntmps25
  go_wp2_with fail
  go_loopg [8] (b - a) (fun q s wr => InsRel W0 g n a b key d q s wr)
  case atStart => exact ⟨a + 1, d, by go_num, by omega, by omega, by omega, HS.out, fun h => ⟨PermOn.refl _ _ _, fun p q h1 h2 h3 => by omega⟩, fun h => ⟨rfl, by omega⟩⟩
  case round =>
    obtain ⟨i, dk, rfl, hai, hib, hq, hst, hp, he⟩ := hrel
    have HQ := Lib.hid hq
    have HST := Lib.hid hst
    have HP := Lib.hid hp
    have HE := Lib.hid he
    clear hq hst hp he
    by_cases hlt : i < b
    · have hP := HP.out (by omega)
      have HPP := Lib.hid hP.1
      have htag : ∀ p, a ≤ p → p < i → dk p < dk i := by
        rw [hP.1.out (i := i) (by omega)]
        exact hP.1.all (Q := fun x => x < d i) (fun p h1 h2 => HUP.out p i h1 h2 hlt)
      have HI := Lib.hid (insAt_start hP.2 htag)
      have hHin := Lib.hid (hP.1.inB (n := n) (by omega) HIN.out)
      clear hP htag
      go_wp2_with fail
      go_loopg [9] i (fun q s wr => InsRel2 W0 g n a i key dk q s wr)
      case atStart => exact ⟨i, dk, rfl, by omega, Nat.le_refl _, rfl, HST.out, PermOn.refl _ _ _, HI.out⟩
      case round =>
        obtain ⟨j, dj, rfl, haj, hji, hq2, hst2, hp2, hin2⟩ := hrel
        have HQ2 := Lib.hid hq2
        have HST2 := Lib.hid hst2
        have HP2 := Lib.hid hp2
        have HI2 := Lib.hid hin2
        clear hq2 hst2 hp2 hin2
        by_cases hja : a < j
        · obtain ⟨jp, rfl⟩ : ∃ jp, j = jp + 1 := ⟨j - 1, by omega⟩
          have hinj := HP2.out.inB (n := n) (by omega) hHin.out
          have lx := hinj (jp + 1) (by omega)
          have ly := hinj jp (by omega)
          have hc1 := HST2.out.cell (i := jp + 1) (by omega)
          have hc2 := HST2.out.cell (i := jp) (by omega)
          have hf1 := HST2.out.frozen (jp + 1)
          have hf2 := HST2.out.frozen jp
          have hnew := Lib.hid (fun q r => ((HST2.out.drewN q).swp (i := jp + 1) (j := jp) (by omega) (by omega)).drewN r)
          obtain ⟨x, hx⟩ : ∃ x, x = dj (jp + 1) := ⟨_, rfl⟩
          obtain ⟨y, hy⟩ : ∃ y, y = dj jp := ⟨_, rfl⟩
          rw [← hx] at hc1 lx
          rw [← hy] at hc2 ly
          rw [← hx, ← hy] at hnew
          have HX := Lib.hid hx
          have HY := Lib.hid hy
          have CC := Lib.hid (fun m => HC.out (wr.drewN m) (HST2.out.drewN m).1 x y lx ly)
          clear hx hy hinj
          have hwp : IntKind.i64.wrap (jp : Int) = (jp : Int) := by rw [IntKind.wrap_i64]; omega
          have jz : (jp : Int) + 1 < (n : Int) := by omega
          have jz1 : (jp : Int) < (n : Int) := by omega
          have hjaz : (a : Int) < (jp : Int) + 1 := by omega
          have p0 : (0 : Int) ≤ (jp : Int) + 1 := by omega
          have e0 : ((jp : Int) + 1).toNat = jp + 1 := by omega
          by_cases hk : key y < key x
          · have t1 : decide (cmpI (key y) (key x) < 0) = true := decide_eq_true (cmpI_neg.2 hk)
            have HK := Lib.hid hk
            clear hk
            go_wp2_with fail
            go_quiet ((go_at_call 19; exact Calls.quiet_of (CC.out _)))
            go_wp2_with fail
            have hnew2 := Lib.hid (hnew.out nq 1)
            obtain ⟨wq, hwq⟩ : ∃ wq, wq = wr.drewN nq := ⟨_, rfl⟩
            have hd1 : wq.cell? ⟨g, jp + 1, none⟩ = some (.int .i64 (x : Int)) := by rw [hwq]; exact hc1
            have hd2 : wq.cell? ⟨g, jp, none⟩ = some (.int .i64 (y : Int)) := by rw [hwq]; exact hc2
            have hg1 : wq.frozen? ⟨g, jp + 1, none⟩ = false := by rw [hwq]; exact hf1
            have hg2 : wq.frozen? ⟨g, jp, none⟩ = false := by rw [hwq]; exact hf2
            rw [← hwq] at hnew2 ⊢
            clear hwq hc1 hc2 hf1 hf2 hnew CC
            go_region
            all_goals go_wp2_with fail
            all_goals
              go_roundg jp
              case measure => have := HQ2.out; omega
              case rel =>
                refine ⟨jp, swp dj (jp + 1) jp, by first | rfl | go_num, by omega, by omega, rfl, hnew2.out, HP2.out.trans (PermOn.swp dj (by omega) (by omega)), insAt_step (by omega) hji HI2.out ?_⟩
                rw [← HX.out, ← HY.out]
                exact HK.out
          · have t1 : decide (cmpI (key y) (key x) < 0) = false := decide_eq_false (fun h => hk (cmpI_neg.1 h))
            have hstop := Lib.hid (insAt_stop (j := jp + 1) (by omega) hji HI2.out (.inr (by rw [Nat.add_sub_cancel, ← HX.out, ← HY.out]; exact hk)))
            clear hk
            go_wp2_with fail
            go_quiet ((go_at_call 19; exact Calls.quiet_of (CC.out _)))
            go_wp2_with fail
            go_roundg (b - i)
            case measure => have := HQ.out; omega
            case rel => exact ⟨i + 1, dj, by go_num, by omega, by omega, by omega, HST2.out.drewN _, fun _ => ⟨(HPP.out.mono (Nat.le_refl _) (by omega)).trans HP2.out, hstop.out⟩, fun h => by omega⟩
        · obtain rfl : j = a := by omega
          have hja2 : decide ((j : Int) < (j : Int)) = false := decide_eq_false (by omega)
          have hstop := Lib.hid (insAt_stop (j := j) (by omega) hji HI2.out (.inl rfl))
          clear hja
          go_wp2_with fail
          go_quiet (fail)
          go_wp2_with fail
          go_roundg (b - i)
          case measure => have := HQ.out; omega
          case rel => exact ⟨i + 1, dj, by go_num, by omega, by omega, by omega, HST2.out.drewN _, fun _ => ⟨(HPP.out.mono (Nat.le_refl _) (by omega)).trans HP2.out, hstop.out⟩, fun h => by omega⟩
    · have hfin : Hid (PermOn a b d dk ∧ SortedIn key a b dk) := by
        by_cases hbi : i ≤ b
        · obtain rfl : i = b := by omega
          exact HP.out (by omega)
        · obtain ⟨rfl, rfl⟩ := HE.out (by omega)
          exact ⟨PermOn.refl _ _ _, fun p q h1 h2 h3 => by omega⟩
      go_wp2_with fail
      go_end0
      exact ⟨rfl, _, HST.out, hfin.out⟩
end Go.Proofs.Ytnigoojjbljibaa
