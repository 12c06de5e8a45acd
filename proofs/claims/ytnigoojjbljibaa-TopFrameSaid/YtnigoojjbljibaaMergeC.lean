/-
  symMerge with many on both sides; symMerge whole.
  Conditions: the comparison answers by keys.
-/
import Derived.Test.YtnigoojjbljibaaMergeB
import Derived.Deep.Cut
import Derived.Deep.CutRange
set_option linter.unusedVariables false
namespace Go.Proofs.Ytnigoojjbljibaa
open Go.RowKit

def LowUp (a m b mid low up : Nat) : Prop := (mid < m ∧ low = mid + m - b ∧ up = mid) ∨ (m ≤ mid ∧ low = a ∧ up = m)
def LowUpV (a m b mid : Nat) (W : World) (s t : Value) (w : World) : Prop := ∃ low up : Nat, s = .int .i64 low ∧ t = .int .i64 up ∧ LowUp a m b mid low up ∧ w = W

def SearchC (W0 : World) (g n low up : Nat) (T F : Nat → Prop) (d : Nat → Nat) (q : Nat) (s t : Value) (wr : World) : Prop :=
  ∃ i j : Nat, s = .int .i64 i ∧ t = .int .i64 j ∧ low ≤ i ∧ i ≤ j ∧ j ≤ up ∧ q = j - i ∧ St W0 g n d wr ∧ (i = low ∨ T i) ∧ (j = up ∨ F j)

/-- What both halves come to. -/
structure Halves (a mid e b s : Nat) (key : Nat → Int) (d r : Nat → Nat) : Prop where
  k1 : SortedIn key a s r
  k2 : SortedIn key s mid r
  k3 : SortedIn key mid e r
  k4 : SortedIn key e b r
  t1 : ∀ x y, a ≤ x → x < s → s ≤ y → y < mid → r x < r y
  t2 : ∀ x y, mid ≤ x → x < e → e ≤ y → y < b → r x < r y
  pm : PermOn a b d r
  whole : ∀ r1 r2, PermOn a mid r r1 → SortedIn key a mid r1 → PermOn mid b r1 r2 → SortedIn key mid b r2 → PermOn a b d r2 ∧ SortedIn key a b r2
def Stage2 (W0 : World) (g n a mid : Nat) (key : Nat → Int) (r : Nat → Nat) (w : World) : Prop := ∃ r1, St W0 g n r1 w ∧ PermOn a mid r r1 ∧ SortedIn key a mid r1
theorem Cut.halves {key : Nat → Int} {a m b s e : Nat} {d : Nat → Nat} (h : Cut key a m b s e d) {mid : Nat} (hm : mid = s + (e - m)) : Halves a mid e b s key d (rot s m e d) := by
  subst hm
  exact ⟨h.s1, h.s2, h.s3, h.s4, h.t1, h.t2, h.perm, fun r1 r2 => h.whole⟩

def SymAll (W0 : World) (g n c : Nat) (cb : Value) (key : Nat → Int) (N : Nat) : Prop := ∀ (W : World) (a m b : Nat) (d : Nat → Nat), b - a < N → Runs W0 g n a m b cb key d W →
  Calls Try.prog 26 #[.slice (some ⟨g, 0, none⟩) n c, .int .i64 a, .int .i64 m, .int .i64 b, .func (.func 19) #[] #[cb]] W (Merged W0 g n a b key d)

set_option maxRecDepth 100000 in
set_option maxHeartbeats 4000000 in
theorem symC (W0 W : World) (g n c a m b : Nat) (cb : Value) (key : Nat → Int) (d : Nat → Nat) (h : Runs W0 g n a m b cb key d W) (hne1 : m ≠ a + 1) (hne2 : b ≠ m + 1) (ih : SymAll W0 g n c cb key (b - a)) :
    Calls Try.prog 26 #[.slice (some ⟨g, 0, none⟩) n c, .int .i64 a, .int .i64 m, .int .i64 b, .func (.func 19) #[] #[cb]] W (Merged W0 g n a b key d) := by
  have H := Lib.hid h
  have IH := Lib.hid ih
  have ham := h.am
  have hmb := h.mb
  have hbn := h.bn
  have hn := h.n64
  clear h ih
  have e1 : (((m : Int) - (a : Int)) == 1) = false := by simp; omega
  have e2 : (((b : Int) - (m : Int)) == 1) = false := by simp; omega
  have haa : a ≤ 64 := by omega
  have hmm : m ≤ 64 := by omega
  have hbb : b ≤ 64 := by omega
  clear hne1 hne2
  obtain ⟨mid, hmid⟩ : ∃ mid, mid = (a + b) / 2 := ⟨_, rfl⟩
  have em : ((a : Int) + (b : Int)) / 2 = (mid : Int) := by omega
  obtain ⟨nn, hnn⟩ : ∃ nn, nn = mid + m := ⟨_, rfl⟩
  have en : ((mid : Int) + (m : Int)) = (nn : Int) := by omega
  obtain ⟨p, hp⟩ : ∃ p, p = nn - 1 := ⟨_, rfl⟩
  have ep : ((nn : Int) - 1) = (p : Int) := by omega
  have hmid64 : mid ≤ 64 := by omega
  have hnn64 : nn ≤ 128 := by omega
  have hnn1 : 1 ≤ nn := by omega
  have hp64 : p ≤ 128 := by omega
  have HMID := Lib.hid hmid
  have HNN := Lib.hid hnn
  have HP := Lib.hid hp
  clear hmid hnn hp
  go_enter Try.func26, Try.ntmps26
  go_upto_if 140 with fail
  go_cut [20, 21] from 141 (fun s20 s21 wx => LowUpV a m b mid W s20 s21 wx)
  case first =>
    by_cases hm : mid < m
    · have t0 : decide ((mid : Int) < (m : Int)) = true := decide_eq_true (by omega)
      have HL := Lib.hid (show LowUp a m b mid (nn - b) mid from .inl ⟨hm, by have := HNN.out; omega, rfl⟩)
      have e3 := Lib.hid (show ((nn : Int) - (b : Int)) = ((nn - b : Nat) : Int) by have := HNN.out; have := HMID.out; omega)
      go_wp2_with fail
      go_meet
      rw [e3.out]
      exact ⟨_, _, rfl, rfl, HL.out, rfl⟩
    · have t0 : decide ((mid : Int) < (m : Int)) = false := decide_eq_false (by omega)
      have HL := Lib.hid (show LowUp a m b mid a m from .inr ⟨by omega, rfl, rfl⟩)
      go_wp2_with fail
      go_meet
      exact ⟨_, _, rfl, rfl, HL.out, rfl⟩
  case rest =>
    obtain ⟨low, up, rfl, rfl, hlu, rfl⟩ := hcut
    have b1 : a ≤ low ∧ low ≤ up ∧ up ≤ m ∧ up ≤ mid ∧ mid + m ≤ low + b := by have := HMID.out; unfold LowUp at hlu; omega
    obtain ⟨b1, b2, b3, b4, b5⟩ := b1
    have HLU := Lib.hid hlu
    clear hlu
    go_wp2_with fail
    go_loopg [20, 21] (up - low) (fun q s t wr => SearchC W0 g n low up (fun x => key (d (mid + m - x)) ≤ key (d (x - 1))) (fun x => key (d x) < key (d (mid + m - 1 - x))) d q s t wr)
    case atStart => exact ⟨low, up, rfl, rfl, Nat.le_refl _, b2, Nat.le_refl _, rfl, H.out.st, .inl rfl, .inl rfl⟩
    case round =>
      obtain ⟨i, j, rfl, rfl, hi, hij, hjb, hq, hst, hT, hF⟩ := hrel
      have HQ := Lib.hid hq
      have HST := Lib.hid hst
      have HT := Lib.hid hT
      have HF := Lib.hid hF
      clear hq hst hT hF
      by_cases hlt : i < j
      · obtain ⟨h, hh⟩ : ∃ h, h = (i + j) / 2 := ⟨_, rfl⟩
        have eh : ((i : Int) + (j : Int)) / 2 = (h : Int) := by omega
        have hih : i ≤ h := by omega
        have hhj : h < j := by omega
        have hhn : h < n := by omega
        obtain ⟨pc, hpc⟩ : ∃ pc, pc = p - h := ⟨_, rfl⟩
        have epc : ((p : Int) - (h : Int)) = (pc : Int) := by have := HP.out; have := HNN.out; omega
        have epw : IntKind.i64.wrap ((p : Int) - (h : Int)) = (pc : Int) := by rw [epc, IntKind.wrap_i64]; omega
        have hpn : pc < n := by have := HP.out; have := HNN.out; omega
        have hpe : pc = mid + m - 1 - h := by have := HP.out; have := HNN.out; omega
        have lx := H.out.inb pc hpn
        have ly := H.out.inb h hhn
        have hc1 := HST.out.cell (i := pc) hpn
        have hc2 := HST.out.cell (i := h) hhn
        obtain ⟨x, hx⟩ : ∃ x, x = d pc := ⟨_, rfl⟩
        obtain ⟨y, hy⟩ : ∃ y, y = d h := ⟨_, rfl⟩
        rw [← hx] at hc1 lx
        rw [← hy] at hc2 ly
        have HX := Lib.hid (show x = d (mid + m - 1 - h) by rw [hx, hpe])
        have HY := Lib.hid hy
        have CC := Lib.hid (fun m => H.out.cmp (wr.drewN m) (HST.out.drewN m).1 x y lx ly)
        clear hh hx hy hpc hpe
        by_cases hk : key y < key x
        · have t1 : decide (cmpI (key y) (key x) < 0) = true := decide_eq_true (cmpI_neg.2 hk)
          have HK := Lib.hid (show key (d h) < key (d (mid + m - 1 - h)) by rw [← HX.out, ← HY.out]; exact hk)
          clear hk
          go_wp2_with fail
          go_quiet ((go_at_call 19; exact Calls.quiet_of (CC.out _)))
          go_wp2_with fail
          go_roundg (h - i)
          case measure => have := HQ.out; omega
          case rel => exact ⟨i, h, rfl, rfl, hi, hih, by omega, rfl, HST.out.drewN _, HT.out, .inr HK.out⟩
        · have t1 : decide (cmpI (key y) (key x) < 0) = false := decide_eq_false (fun h => hk (cmpI_neg.1 h))
          have HK := Lib.hid (show key (d (mid + m - (h + 1))) ≤ key (d (h + 1 - 1)) by
            rw [show mid + m - (h + 1) = mid + m - 1 - h by omega, Nat.add_sub_cancel, ← HX.out, ← HY.out]; exact Int.not_lt.1 hk)
          clear hk
          go_wp2_with fail
          go_quiet ((go_at_call 19; exact Calls.quiet_of (CC.out _)))
          go_wp2_with fail
          go_roundg (j - (h + 1))
          case measure => have := HQ.out; omega
          case rel => exact ⟨h + 1, j, by go_num, rfl, by omega, by omega, hjb, rfl, HST.out.drewN _, .inr HK.out, HF.out⟩
      · obtain rfl : i = j := by omega
        have hcut : Cut key a m b i (mid + m - i) d := many H.out.left H.out.right H.out.tag ham hmb HMID.out HLU.out hi hjb (HT.out.imp_right (fun h => Int.not_lt.2 h)) HF.out
        obtain ⟨e, he⟩ : ∃ e, e = mid + m - i := ⟨_, rfl⟩
        rw [← he] at hcut
        have ee : ((nn : Int) - (i : Int)) = (e : Int) := by have := HNN.out; omega
        have c1 := hcut.as_
        have c2 := hcut.sm
        have c3 := hcut.me
        have c4 := hcut.eb
        have hmide : mid = i + (e - m) := by omega
        have hlt1 : mid < b := by have := HMID.out; omega
        have hlt2 : a < mid := by have := HMID.out; omega
        have HH := Lib.hid (hcut.halves hmide)
        have HIN := Lib.hid (hcut.perm.inB hbn H.out.inb)
        have HE := Lib.hid hmide
        have hee : e ≤ 64 := by omega
        clear hcut he hmide hlt

        obtain ⟨r, hrr⟩ : ∃ r, r = rot i m e d := ⟨_, rfl⟩
        rw [← hrr] at HH HIN
        have HRR := Lib.hid hrr
        clear hrr
        obtain ⟨B1, hB1⟩ : ∃ B1 : Bool, B1 = decide (i < m ∧ m < e) := ⟨_, rfl⟩
        have HB1 := Lib.hid hB1
        clear hB1
        go_upto_region 39 with fail
        go_cut [185] from 178 (fun s185 wx => s185 = .bool B1 ∧ wx = wr)
        case first =>
          by_cases hr1 : i < m
          · have r1 : decide ((i : Int) < (m : Int)) = true := decide_eq_true (by omega)
            by_cases hr2 : m < e
            · have r2 : decide ((m : Int) < (e : Int)) = true := decide_eq_true (by omega)
              have hb := Lib.hid (show true = B1 by rw [HB1.out]; exact (decide_eq_true ⟨hr1, hr2⟩).symm)
              go_wp2_with fail
              go_meet
              exact ⟨by rw [← hb.out], rfl⟩
            · have r2 : decide ((m : Int) < (e : Int)) = false := decide_eq_false (by omega)
              have hb := Lib.hid (show false = B1 by rw [HB1.out]; exact (decide_eq_false (fun h => hr2 h.2)).symm)
              go_wp2_with fail
              go_meet
              exact ⟨by rw [← hb.out], rfl⟩
          · have r1 : decide ((i : Int) < (m : Int)) = false := decide_eq_false (by omega)
            have hb := Lib.hid (show false = B1 by rw [HB1.out]; exact (decide_eq_false (fun h => hr1 h.1)).symm)
            go_wp2_with fail
            go_meet
            exact ⟨by rw [← hb.out], rfl⟩
        case rest =>
          obtain ⟨rfl, rfl⟩ := hcut
          go_upto_if 185 with fail
          go_cut [] from 186 (fun wx => St W0 g n r wx)
          case first =>
            cases B1
            · have hr := of_decide_eq_false HB1.out.symm
              have HS1 := Lib.hid (show St W0 g n r wc by
                rw [HRR.out]
                by_cases q : i < m
                · rw [show e = m by omega, rot_none_right i m d (by omega)]; exact HST.out
                · rw [show i = m by omega, rot_none_left m e d]; exact HST.out)
              clear hr
              go_wp2_with fail
              go_meet
              exact HS1.out
            · obtain ⟨hr1, hr2⟩ := of_decide_eq_true HB1.out.symm
              go_wp2_with fail
              refine (rotate_any W0 wc g n c i m e d _ HST.out hr1 hr2 (by omega) hn).mono ?_
              rintro e' w1 ⟨rfl, d1, hst1, hd1⟩
              have HS1 := Lib.hid (show St W0 g n r w1 by rw [HRR.out, ← hd1]; exact hst1)
              clear hst1 hd1
              go_wp2_with fail
              go_meet
              exact HS1.out
          case rest =>
            have HS1 := Lib.hid hcut
            clear hcut
            obtain ⟨B2, hB2⟩ : ∃ B2 : Bool, B2 = decide (a < i ∧ i < mid) := ⟨_, rfl⟩
            have HB2 := Lib.hid hB2
            clear hB2

            go_upto_region 41 with fail
            go_cut [199] from 192 (fun s199 wx => s199 = .bool B2 ∧ wx = wc)
            case first =>
              by_cases hr1 : a < i
              · have r1 : decide ((a : Int) < (i : Int)) = true := decide_eq_true (by omega)
                by_cases hr2 : i < mid
                · have r2 : decide ((i : Int) < (mid : Int)) = true := decide_eq_true (by omega)
                  have hb := Lib.hid (show true = B2 by rw [HB2.out]; exact (decide_eq_true ⟨hr1, hr2⟩).symm)
                  go_wp2_with fail
                  go_meet
                  exact ⟨by rw [← hb.out], rfl⟩
                · have r2 : decide ((i : Int) < (mid : Int)) = false := decide_eq_false (by omega)
                  have hb := Lib.hid (show false = B2 by rw [HB2.out]; exact (decide_eq_false (fun h => hr2 h.2)).symm)
                  go_wp2_with fail
                  go_meet
                  exact ⟨by rw [← hb.out], rfl⟩
              · have r1 : decide ((a : Int) < (i : Int)) = false := decide_eq_false (by omega)
                have hb := Lib.hid (show false = B2 by rw [HB2.out]; exact (decide_eq_false (fun h => hr1 h.1)).symm)
                go_wp2_with fail
                go_meet
                exact ⟨by rw [← hb.out], rfl⟩
            case rest =>
              obtain ⟨rfl, rfl⟩ := hcut
              go_upto_if 199 with fail
              go_cut [] from 200 (fun wx => Stage2 W0 g n a mid key r wx)
              case first =>
                cases B2
                · have hr := of_decide_eq_false HB2.out.symm
                  have HS2 := Lib.hid (show Stage2 W0 g n a mid key r wc from ⟨r, HS1.out, PermOn.refl _ _ _, by
                    by_cases q : a < i
                    · have q2 : i = mid := by omega
                      have := HH.out.k1
                      rwa [q2] at this
                    · have q2 : i = a := by omega
                      have := HH.out.k2
                      rwa [q2] at this⟩)
                  clear hr
                  go_wp2_with fail
                  go_meet
                  exact HS2.out
                · obtain ⟨hl1, hl2⟩ := of_decide_eq_true HB2.out.symm
                  go_wp2_with fail
                  refine (IH.out wc a i mid r (by omega) ⟨H.out.cmp, HS1.out, HIN.out, hl1, hl2, (by omega), hn, HH.out.k1, HH.out.k2, HH.out.t1⟩).mono ?_
                  rintro e' w2 ⟨rfl, r1, hst2, hp2, hs2⟩
                  have HS2 := Lib.hid (show Stage2 W0 g n a mid key r w2 from ⟨r1, hst2, hp2, hs2⟩)
                  clear hst2 hp2 hs2
                  go_wp2_with fail
                  go_meet
                  exact HS2.out
              case rest =>
                obtain ⟨r1, hst2, hp2, hs2⟩ := hcut
                have HO := Lib.hid (fun x (h : mid ≤ x) => hp2.out (i := x) (.inr h))
                have HIN2 := Lib.hid (hp2.inB (n := n) (by omega) HIN.out)
                have HS2 := Lib.hid hst2
                have HP2 := Lib.hid hp2
                have HQ2 := Lib.hid hs2
                clear hst2 hp2 hs2
                have RK3 := Lib.hid (show SortedIn key mid e r1 from fun x y h1 h2 h3 => by rw [HO.out x h1, HO.out y (by omega)]; exact HH.out.k3 x y h1 h2 h3)
                have RK4 := Lib.hid (show SortedIn key e b r1 from fun x y h1 h2 h3 => by rw [HO.out x (by omega), HO.out y (by omega)]; exact HH.out.k4 x y h1 h2 h3)
                have RT := Lib.hid (show ∀ x y, mid ≤ x → x < e → e ≤ y → y < b → r1 x < r1 y from fun x y h1 h2 h3 h4 => by rw [HO.out x h1, HO.out y (by omega)]; exact HH.out.t2 x y h1 h2 h3 h4)
                by_cases hq : mid < e
                · have q1 : decide ((mid : Int) < (e : Int)) = true := decide_eq_true (by omega)
                  have hq1 : mid < e := hq
                  by_cases hq' : e < b
                  · have q2 : decide ((e : Int) < (b : Int)) = true := decide_eq_true (by omega)
                    have hq2 : e < b := hq'
                    go_wp2_with fail
                    refine (IH.out wc mid e b r1 (by omega) ⟨H.out.cmp, HS2.out, HIN2.out, hq1, hq2, hbn, hn, RK3.out, RK4.out, RT.out⟩).mono ?_
                    rintro e' w3 ⟨rfl, r2, hst3, hp3, hs3⟩
                    have HS3 := Lib.hid hst3
                    have HFin := Lib.hid (HH.out.whole r1 r2 HP2.out HQ2.out hp3 hs3)
                    clear hst3 hp3 hs3
                    go_wp2_with fail
                    go_end0
                    exact ⟨rfl, _, HS3.out, HFin.out⟩
                  · have q2 : decide ((e : Int) < (b : Int)) = false := decide_eq_false (by omega)
                    have HFin := Lib.hid (HH.out.whole r1 r1 HP2.out HQ2.out (PermOn.refl _ _ _) (by
                      have q3 : e = b := by omega
                      have := RK3.out
                      rwa [q3] at this))
                    go_wp2_with fail
                    go_end0
                    exact ⟨rfl, _, HS2.out, HFin.out⟩
                · have q1 : decide ((mid : Int) < (e : Int)) = false := decide_eq_false (by omega)
                  have HFin := Lib.hid (HH.out.whole r1 r1 HP2.out HQ2.out (PermOn.refl _ _ _) (by
                    have q3 : e = mid := by omega
                    have := RK4.out
                    rwa [q3] at this))
                  go_wp2_with fail
                  go_end0
                  exact ⟨rfl, _, HS2.out, HFin.out⟩

/-- symMerge. -/
theorem sym_any (W0 : World) (g n c : Nat) (cb : Value) (key : Nat → Int) : ∀ N, SymAll W0 g n c cb key N
  | 0 => fun W a m b d hN => absurd hN (Nat.not_lt_zero _)
  | N + 1 => fun W a m b d hN h => by
    have ih := sym_any W0 g n c cb key N
    by_cases h1 : m = a + 1
    · subst h1; exact symA W0 W g n c a b cb key d h
    · by_cases h2 : b = m + 1
      · subst h2; exact symB W0 W g n c a m cb key d h h1
      · exact symC W0 W g n c a m b cb key d h h1 h2 (fun W' a' m' b' d' hN' => ih W' a' m' b' d' (by omega))
end Go.Proofs.Ytnigoojjbljibaa
