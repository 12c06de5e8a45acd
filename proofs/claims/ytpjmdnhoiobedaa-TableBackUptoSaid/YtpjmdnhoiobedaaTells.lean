/-
  Splits and Cores of program and document.
  Conditions: the slice reads as places.
-/
import Derived.Test.YtpjmdnhoiobedaaSmall
import Derived.Test.YtpjmdnhoiobedaaTicks
import Derived.Test.YtpjmdnhoiobedaaCount
set_option linter.unusedVariables false
namespace Go.Proofs.Ytpjmdnhoiobedaa
open Go.RowKit Go.Sort

theorem splits_snoc {l : List Pl} {k : Nat} {x : Pl} (hx : l[k]? = some x) : splitsN (l.take (k + 1)) = splitsN (l.take k) + (!decide (x.ps.length = 0)).toNat := by
  rw [List.take_add_one, hx]
  unfold splitsN
  rw [Option.toList_some, List.countP_append, List.countP_singleton]
  cases decide (x.ps.length = 0) <;> rfl
theorem splits_le (l : List Pl) : splitsN l ≤ l.length := List.countP_le_length

set_option maxRecDepth 100000 in
set_option maxHeartbeats 2000000 in
theorem splits_any (f : Int) (m : Nat) (v : Value) (l : List Pl) (w : World) (h : PlsAt w v l) (hl : l.length ≤ 1000) :
    Calls Try.prog 68 #[planA f m v] w (RetB (.int .i64 (splitsN l : Nat)) w) := by
  obtain ⟨A, cA, rfl, hlc, hcm⟩ := h.form
  have HL := Lib.hid h
  obtain ⟨w1, P, hw1, hP, hPl, hb1, hbox⟩ := box_any w #[.int .i64 f, .int .u32 m, .slice A l.length cA] 25
  obtain ⟨n, hn⟩ : ∃ n, l.length = n := ⟨_, rfl⟩
  rw [hn] at HL hlc hl hw1 hbox ⊢
  have HN := Lib.hid hn
  have HB1 := Lib.hid hb1
  have HBOX := Lib.hid hbox
  obtain ⟨r0, r1, r2⟩ := three_heads hbox
  clear h hn hb1 hbox
  unfold planA
  have HW := Lib.hid (fun A n d x w => isWhole_any Any A n d x w)
  go_enter Try.func68, Try.ntmps68
  go_wp2_with fail
  clear hw1 hP r0 r1 r2
  go_loopg [3, 5, 9] n (fun gg s3 _ s9 wr => ∃ k : Nat, k ≤ n ∧ gg = n - k ∧ s9 = .int .i64 k ∧ s3 = .int .i64 (splitsN (l.take k) : Nat) ∧ Below w1.heap.size w1 wr)
  case atStart => exact ⟨0, Nat.zero_le _, by omega, rfl, rfl, Below.refl _ _⟩
  case round =>
    obtain ⟨k, hk, hg, rfl, rfl, hbw⟩ := hrel
    have HBW := Lib.hid hbw
    have HB := Lib.hid (HB1.out.trans (hbw.mono HB1.out.size))
    have HG := Lib.hid hg
    have hPl2 : P < wr.heap.size := Nat.lt_of_lt_of_le hPl hbw.size
    have HBX := Lib.hid ((hbw.block P hPl).trans HBOX.out)
    obtain ⟨r0, r1, r2⟩ := three_heads HBX.out
    have HLR := Lib.hid (HL.out.keep HB.out)
    clear hbw hg
    by_cases hlt : k < n
    · have hk0 : True := trivial
      have hltz : (k : Int) < (n : Int) := by omega
      obtain ⟨x, hx⟩ := exP_at (xs := l) (k := k) (by rw [HN.out]; exact hlt)
      obtain ⟨b, off, B, d, hA, hbl, _, ⟨c0, c1, c2, c3⟩, hps⟩ := HLR.out.at_ hx
      subst hA
      simp only at c0 c1 c2 c3
      have HX := Lib.hid hx
      have HPS := Lib.hid hps
      clear hx hps
      obtain ⟨w2, N, hw2, hN, hNl, hb2, hxbox⟩ := box_any wr #[.int .i64 x.u, .int .i64 x.s, .int .i64 x.c, .slice B x.ps.length d] 56
      have HB2 := Lib.hid hb2
      have HXB := Lib.hid hxbox
      obtain ⟨x0, x1, x2, x3⟩ := four_heads hxbox
      obtain ⟨p0, p1, p2⟩ := three_heads (keep_block HBX.out hb2)
      clear hb2 hxbox
      have HS := Lib.hid (splits_snoc HX.out)
      have hq : splitsN (l.take k) ≤ k := Nat.le_trans (splits_le _) (by rw [List.length_take]; omega)
      generalize splitsN (l.take k) = q at *
      cases hz : decide (x.ps.length = 0) with
      | true =>
        have HC := Lib.hid (fun w => HW.out (B) x.ps.length d x w)
        rw [hz] at HC HS
        unfold plA at HC
        clear hz
        go_wp2_with fail
        refine (HC.out _).mono ?_
        rintro e w3 ⟨rfl, hb3⟩
        have HB3 := Lib.hid (HBW.out.trans ((HB2.out.mono HBW.out.size).trans (hb3.mono (Nat.le_trans HBW.out.size HB2.out.size))))
        clear hb3
        go_wp2_with fail
        go_roundg (n - (k + 1))
        case measure => have := HG.out; omega
        case rel => exact ⟨k + 1, by omega, rfl, by go_num, by rw [HS.out]; rfl, HB3.out⟩
      | false =>
        have HC := Lib.hid (fun w => HW.out (B) x.ps.length d x w)
        rw [hz] at HC HS
        unfold plA at HC
        clear hz
        go_wp2_with fail
        refine (HC.out _).mono ?_
        rintro e w3 ⟨rfl, hb3⟩
        have HB3 := Lib.hid (HBW.out.trans ((HB2.out.mono HBW.out.size).trans (hb3.mono (Nat.le_trans HBW.out.size HB2.out.size))))
        clear hb3
        go_wp2_with fail
        go_roundg (n - (k + 1))
        case measure => have := HG.out; omega
        case rel => exact ⟨k + 1, by omega, rfl, by go_num, by rw [HS.out]; go_num, HB3.out⟩
    · have hkn : k = n := by omega
      have hltz : ¬ (k : Int) < (n : Int) := by omega
      have HE := Lib.hid (show splitsN (l.take k) = splitsN l by rw [List.take_of_length_le (by rw [HN.out]; omega)])
      generalize splitsN (l.take k) = q at *
      clear hkn
      go_wp2
      go_ret
      exact ⟨ret_natU HE.out, HB.out⟩

set_option maxRecDepth 100000 in
set_option maxHeartbeats 2000000 in
theorem refSplits_any (f : Int) (m : Nat) (v : Value) (l : List Pl) (w : World) (h : PlsAt w v l) (hl : l.length ≤ 1000) :
    Calls Try.prog 27 #[planA f m v] w (RetB (.int .i64 (splitsN l : Nat)) w) := by
  obtain ⟨A, cA, rfl, hlc, hcm⟩ := h.form
  have HL := Lib.hid h
  obtain ⟨w1, P, hw1, hP, hPl, hb1, hbox⟩ := box_any w #[.int .i64 f, .int .u32 m, .slice A l.length cA] 25
  obtain ⟨n, hn⟩ : ∃ n, l.length = n := ⟨_, rfl⟩
  rw [hn] at HL hlc hl hw1 hbox ⊢
  have HN := Lib.hid hn
  have HB1 := Lib.hid hb1
  have HBOX := Lib.hid hbox
  obtain ⟨r0, r1, r2⟩ := three_heads hbox
  clear h hn hb1 hbox
  unfold planA
  go_enter Try.func27, Try.ntmps27
  go_wp2_with fail
  clear hw1 hP r0 r1 r2
  go_loopg [3, 4] n (fun gg s3 s4 wr => ∃ k : Nat, k ≤ n ∧ gg = n - k ∧ s4 = .int .i64 k ∧ s3 = .int .i64 (splitsN (l.take k) : Nat) ∧ Below w1.heap.size w1 wr)
  case atStart => exact ⟨0, Nat.zero_le _, by omega, rfl, rfl, Below.refl _ _⟩
  case round =>
    obtain ⟨k, hk, hg, rfl, rfl, hbw⟩ := hrel
    have HBW := Lib.hid hbw
    have HB := Lib.hid (HB1.out.trans (hbw.mono HB1.out.size))
    have HG := Lib.hid hg
    have hPl2 : P < wr.heap.size := Nat.lt_of_lt_of_le hPl hbw.size
    have HBX := Lib.hid ((hbw.block P hPl).trans HBOX.out)
    obtain ⟨r0, r1, r2⟩ := three_heads HBX.out
    have HLR := Lib.hid (HL.out.keep HB.out)
    clear hbw hg
    by_cases hlt : k < n
    · have hk0 : True := trivial
      have hltz : (k : Int) < (n : Int) := by omega
      obtain ⟨x, hx⟩ := exP_at (xs := l) (k := k) (by rw [HN.out]; exact hlt)
      obtain ⟨b, off, B, d, hA, hbl, _, ⟨c0, c1, c2, c3⟩, hps⟩ := HLR.out.at_ hx
      subst hA
      simp only at c0 c1 c2 c3
      have HX := Lib.hid hx
      have HPS := Lib.hid hps
      clear hx hps
      have HS := Lib.hid (splits_snoc HX.out)
      have hq : splitsN (l.take k) ≤ k := Nat.le_trans (splits_le _) (by rw [List.length_take]; omega)
      generalize splitsN (l.take k) = q at *
      generalize x.ps.length = z at *
      cases hz : decide (z = 0) with
      | true =>
        rw [hz] at HS
        have hz0 : z = 0 := of_decide_eq_true hz
        subst hz0
        clear hz
        go_wp2_with fail
        go_roundg (n - (k + 1))
        case measure => have := HG.out; omega
        case rel => exact ⟨k + 1, by omega, rfl, by go_num, by rw [HS.out]; rfl, HBW.out⟩
      | false =>
        rw [hz] at HS
        have hz0 : 0 < z := Nat.pos_of_ne_zero (of_decide_eq_false hz)
        have hz1 : (0 : Int) < (z : Int) := by omega
        clear hz
        go_wp2_with fail
        go_roundg (n - (k + 1))
        case measure => have := HG.out; omega
        case rel => exact ⟨k + 1, by omega, rfl, by go_num, by rw [HS.out]; go_num, HBW.out⟩
    · have hkn : k = n := by omega
      have hltz : ¬ (k : Int) < (n : Int) := by omega
      have HE := Lib.hid (show splitsN (l.take k) = splitsN l by rw [List.take_of_length_le (by rw [HN.out]; omega)])
      generalize splitsN (l.take k) = q at *
      clear hkn
      go_wp2
      go_ret
      exact ⟨ret_natU HE.out, HB.out⟩
end Go.Proofs.Ytpjmdnhoiobedaa
