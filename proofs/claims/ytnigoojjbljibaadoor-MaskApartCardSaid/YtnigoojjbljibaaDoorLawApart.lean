/-
  The law MaskApart: it returns true for any input, and writes nothing that was there.
  Conditions: the numbers are of their kinds; the table of math/bits is as start-up lays it.
-/
import Derived.Test.YtnigoojjbljibaaDoorAwake
import Derived.Test.YtnigoojjbljibaaDoorApartMath
set_option linter.unusedVariables false
namespace Go.Proofs.YtnigoojjbljibaaDoor
open Go.RowKit

theorem apartLaw_out (f d : Int) (xs : List Int) (v : Value) (w : World) (hx : IntsAt w v xs) (hT : Tab w) (h : f < 1 ∨ 64 < f ∨ 100 < xs.length) :
    Calls Tryd.prog 7 #[.int .i64 f, .int .i64 d, v] w (Ans w) := by
  have HA := Lib.hid (awake_any w hT)
  obtain ⟨A, c, rfl, hl, _⟩ := hx
  clear hT
  by_cases h1 : f < 1
  · clear h
    go_enter Tryd.func7, Tryd.ntmps7
    go_wp2_with fail
    refine HA.out.mono ?_
    rintro e w1 ⟨rfl, hb1⟩
    go_wp2_with fail
    go_ret
    exact ⟨rfl, hb1⟩
  · have t1 : decide (f < 1) = false := decide_eq_false h1
    by_cases h2 : 64 < f
    · have t2 : decide (64 < f) = true := decide_eq_true h2
      clear h
      go_enter Tryd.func7, Tryd.ntmps7
      go_wp2_with fail
      refine HA.out.mono ?_
      rintro e w1 ⟨rfl, hb1⟩
      go_wp2_with fail
      go_ret
      exact ⟨rfl, hb1⟩
    · have t2 : decide (64 < f) = false := decide_eq_false h2
      have h3 : 100 < xs.length := by omega
      have t3 : decide ((100 : Int) < (xs.length : Int)) = true := decide_eq_true (by omega)
      clear h
      go_enter Tryd.func7, Tryd.ntmps7
      go_wp2_with fail
      refine HA.out.mono ?_
      rintro e w1 ⟨rfl, hb1⟩
      go_wp2_with fail
      go_ret
      exact ⟨rfl, hb1⟩

def ApartRel (f l n : Nat) (a : Int) (w : World) (g : Nat) (s7 s8 s9 s10 : Value) (wr : World) : Prop :=
  ∃ k u : Nat, k ≤ n ∧ u ≤ f ∧ g = n - k ∧ s10 = .int .i64 k ∧ s7 = .int .i64 (a + u) ∧ s8 = .int .i64 u ∧ s9 = .int .u64 (roundN f u l) ∧ Below w.heap.size w wr

set_option maxRecDepth 100000 in
set_option maxHeartbeats 2000000 in
theorem apartLaw_in (f : Nat) (d : Int) (xs : List Int) (v : Value) (w : World) (hx : IntsAt w v xs) (hT : Tab w) (h1 : 1 ≤ f) (h64 : f ≤ 64) (hlen : xs.length ≤ 100) :
    Calls Tryd.prog 7 #[.int .i64 f, .int .i64 d, v] w (Ans w) := by
  have HT := Lib.hid hT
  have HA := Lib.hid (fun W (h : Tab W) => awake_any W h)
  obtain ⟨A, c, rfl, hl, hat⟩ := hx
  have HX := Lib.hid hat
  have hl0 : modN d f < f := modN_lt h1
  have HM := Lib.hid (fun u : Nat => (show modN (d.tmod f + u) f = (modN d f + u) % f by rw [modN_add h1, modN_tmod d h1]))
  have hb := tmod_bound d h1 h64
  have HF : Hid (frN (f : Int) = f) := by unfold Hid frN; omega
  have HAP := Lib.hid (fun u n (h : u + n ≤ f) => apart_of hl0 h64 h)
  have HCN := Lib.hid (fun u (h : u ≤ f) => cnt_round hl0 h64 u h)
  have HR := Lib.hid (fun (u n : Nat) (h : n ≤ f) W => (show Calls Tryd.prog 20 #[.int .i64 f, .int .i64 (d.tmod f + u), .int .i64 n] W (RetB (.int .u64 (roundN f n ((modN d f + u) % f))) W) by
    have := round_any (f : Int) (d.tmod f + u) n W
    rwa [HF.out, HM.out, show frN (n : Int) = n by unfold frN; omega] at this))
  have HALL := Lib.hid (fun W => (show Calls Tryd.prog 9 #[.int .i64 f] W (Ret (.int .u64 (allN f)) W) by have := all_any (f : Int) W; rwa [HF.out] at this))
  have hrt : Hid (roundN f 0 (modN d f) = 0) := round_zero _ _
  have t1 : decide ((f : Int) < 1) = false := decide_eq_false (by omega)
  have t2 : decide ((64 : Int) < (f : Int)) = false := decide_eq_false (by omega)
  have t3 : decide ((100 : Int) < (xs.length : Int)) = false := decide_eq_false (by omega)
  have hfz : ((f : Int) != 0) = true := by simp; omega
  generalize modN d f = l at *
  generalize ha : d.tmod f = a at *
  clear hT hat
  go_enter Tryd.func7, Tryd.ntmps7
  go_wp2_with fail
  go_loopg [7, 8, 9, 10] xs.length (fun g s7 s8 s9 s10 wr => ApartRel f l xs.length a w g s7 s8 s9 s10 wr)
  case atStart => exact ⟨0, 0, Nat.zero_le _, Nat.zero_le _, rfl, rfl, by go_num, rfl, by rw [hrt.out]; rfl, Below.refl _ _⟩
  case round =>
    obtain ⟨k, u, hk, hu, hg, rfl, rfl, rfl, rfl, hbw⟩ := hrel
    have HG := Lib.hid hg
    have HW := Lib.hid hbw
    clear hg hbw
    by_cases hlt : k < xs.length
    · obtain ⟨x, hx⟩ := ex_at hlt
      obtain ⟨b, o, rfl, g1, hc⟩ := HX.out (by omega)
      have r1 : wr.cell? ⟨b, o + k, none⟩ = some (.int .i64 x) := (HW.out.cell (p := ⟨b, o + k, none⟩) g1).trans (hc k _ hx)
      clear hc hx
      have hsub : IntKind.i64.wrap ((f : Int) - (u : Int)) = (f : Int) - u := IntWalk.i64_in _ (by omega)
      by_cases hneg : x < 0
      · go_wp2_with fail
        go_roundg (xs.length - (k + 1))
        case measure => have := HG.out; omega
        case rel => exact ⟨k + 1, u, by omega, hu, rfl, by go_num, rfl, rfl, rfl, HW.out⟩
      · have t4 : decide (x < 0) = false := decide_eq_false hneg
        by_cases hbig : (f : Int) - u < x
        · have t5 : decide ((f : Int) - u < x) = true := decide_eq_true hbig
          go_wp2_with fail
          go_roundg (xs.length - (k + 1))
          case measure => have := HG.out; omega
          case rel => exact ⟨k + 1, u, by omega, hu, rfl, by go_num, rfl, rfl, rfl, HW.out⟩
        · have t5 : decide ((f : Int) - u < x) = false := decide_eq_false hbig
          obtain ⟨n, rfl⟩ := Int.eq_ofNat_of_zero_le (show 0 ≤ x by omega)
          have hun : u + n ≤ f := by omega
          have hap := HAP.out u n hun
          have HRR := Lib.hid (fun W => HR.out u n (by omega) W)
          have y1 := round_lt f u l
          have y2 := round_lt f n ((l + u) % f)
          have w1 := bits_and_u64_nat _ _ y2 y1
          rw [hap.meet] at w1
          have w2 := bits_or_u64_nat _ _ y1 y2
          rw [hap.join] at w2
          have w3 := andNot_word _ (allN f) y2 (allN_lt h64)
          rw [hap.inside] at w3
          have HC := Lib.hid (fun W => count_any (roundN f n ((l + u) % f)) W y2)
          rw [hap.count] at HC
          have a1 : IntKind.i64.wrap ((u : Int) + (n : Int)) = ((u + n : Nat) : Int) := by rw [IntWalk.i64_in _ (by omega)]; omega
          have a2 : IntKind.i64.wrap (a + (u : Int) + (n : Int)) = a + ((u + n : Nat) : Int) := by rw [IntWalk.i64_in _ (by omega)]; omega
          have hnn : ((n : Int) != (n : Int)) = false := by simp
          generalize hz : roundN f (u + n) l = z at *
          have HZ := Lib.hid hz
          generalize roundN f u l = y at *
          generalize roundN f n ((l + u) % f) = q at *
          generalize allN f = al at *
          clear hz hap y1 y2 hneg hbig
          go_wp2_with fail
          refine (HRR.out _).mono ?_
          rintro e w2' ⟨rfl, hb2⟩
          have HW2 := Lib.hid (HW.out.trans (hb2.mono HW.out.size))
          clear hb2
          go_wp2_with (first | (go_at_call 13; refine (HC.out _).mono ?_; rintro e w' ⟨rfl, rfl⟩) | (go_at_call 9; refine (HALL.out _).mono ?_; rintro e w' ⟨rfl, rfl⟩))
          go_roundg (xs.length - (k + 1))
          case measure => have := HG.out; omega
          case rel => exact ⟨k + 1, u + n, by omega, hun, rfl, by go_num, by go_num, by go_num, by rw [HZ.out], HW2.out⟩
    · have HC := Lib.hid (fun W => count_any (roundN f u l) W (round_lt _ _ _))
      rw [HCN.out u hu] at HC
      have huu : ((u : Int) == (u : Int)) = true := by simp
      generalize roundN f u l = y at *
      go_wp2_with (go_at_call 13; refine (HC.out _).mono ?_; rintro e w' ⟨rfl, rfl⟩)
      refine (HA.out _ (HT.out.later HW.out)).mono ?_
      rintro e w3 ⟨rfl, hb3⟩
      go_wp2_with fail
      go_ret
      exact ⟨rfl, HW.out.trans (hb3.mono HW.out.size)⟩

theorem apartLaw_any (f d : Int) (xs : List Int) (v : Value) (w : World) (hx : IntsAt w v xs) (hT : Tab w) :
    Calls Tryd.prog 7 #[.int .i64 f, .int .i64 d, v] w (Ans w) := by
  by_cases h : 1 ≤ f ∧ f ≤ 64 ∧ xs.length ≤ 100
  · obtain ⟨F, rfl⟩ := Int.eq_ofNat_of_zero_le (show 0 ≤ f by omega)
    exact apartLaw_in F d xs v w hx hT (by omega) (by omega) h.2.2
  · exact apartLaw_out f d xs v w hx hT (by omega)
end Go.Proofs.YtnigoojjbljibaaDoor
