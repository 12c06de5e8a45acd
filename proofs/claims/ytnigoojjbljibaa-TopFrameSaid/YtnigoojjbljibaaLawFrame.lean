/-
  The law TopFrame: it returns true for any frame, tick and weights, and writes nothing that was there.
  Conditions: none.
-/
import Derived.Test.YtnigoojjbljibaaTopAwake
import Derived.Test.YtnigoojjbljibaaTopMath
import Derived.Test.YtnigoojjbljibaaTicks
import Derived.Deep.RegionHeld3
set_option linter.unusedVariables false
namespace Go.Proofs.Ytnigoojjbljibaa
open Go.RowKit

theorem IntsAt.open4 {W : World} {A : Option Addr} {n c : Nat} {xs : List Int} (h : IntsAt W (.slice A n c) xs) :
    n = xs.length ∧ (0 < xs.length → ∃ b off, A = some ⟨b, off, none⟩ ∧ b < W.heap.size ∧ ∀ (j : Nat) (x : Int), xs[j]? = some x → W.cell? ⟨b, off + j, none⟩ = some (.int .i64 x)) := by
  obtain ⟨B', d', e1, _, h3⟩ := h
  injection e1 with e1 e2 _
  subst e1
  exact ⟨e2, h3⟩

set_option maxRecDepth 100000 in
set_option maxHeartbeats 2000000 in
theorem frameLaw_bad (f d : Int) (ws : List Int) (v : Value) (w : World) (hv : IntsAt w v ws) (h : ¬ AllRight f ws) :
    Calls Try.prog 3 #[.int .i64 f, .int .i64 d, v] w (Ans w) := by
  have HL := Lib.hid (largest_bad f ws v w hv h)
  obtain ⟨A, c, rfl, hl, hat⟩ := hv
  clear hat h
  by_cases h1 : f < 1
  · go_enter Try.func3, Try.ntmps3
    go_wp2_with fail
    refine HL.out.mono ?_
    rintro e w1 ⟨v1, rfl, hi1, hb1⟩
    have HB1 := Lib.hid hb1
    clear hi1 hb1
    go_wp2_with fail
    refine (begins_any _).mono ?_
    rintro e w3 ⟨rfl, hb3⟩
    go_wp2_with fail
    go_ret
    exact ⟨rfl, HB1.out.trans (hb3.mono HB1.out.size)⟩
  · have t1 : decide (f < 1) = false := decide_eq_false h1
    by_cases h2 : 64 < f
    · have t2 : decide (64 < f) = true := decide_eq_true h2
      go_enter Try.func3, Try.ntmps3
      go_wp2_with fail
      refine HL.out.mono ?_
      rintro e w1 ⟨v1, rfl, hi1, hb1⟩
      have HB1 := Lib.hid hb1
      clear hi1 hb1
      go_wp2_with fail
      refine (begins_any _).mono ?_
      rintro e w3 ⟨rfl, hb3⟩
      go_wp2_with fail
      go_ret
      exact ⟨rfl, HB1.out.trans (hb3.mono HB1.out.size)⟩
    · have t2 : decide (64 < f) = false := decide_eq_false h2
      go_enter Try.func3, Try.ntmps3
      go_wp2_with fail
      refine HL.out.mono ?_
      rintro e w1 ⟨v1, rfl, hi1, hb1⟩
      have HB1 := Lib.hid hb1
      clear hi1 hb1
      go_wp2_with fail
      refine (begins_any _).mono ?_
      rintro e w3 ⟨rfl, hb3⟩
      go_wp2_with fail
      go_ret
      exact ⟨rfl, HB1.out.trans (hb3.mono HB1.out.size)⟩

set_option maxRecDepth 100000 in
set_option maxHeartbeats 2000000 in
theorem frameLaw_out (f d : Int) (ws : List Int) (v : Value) (w : World) (hv : IntsAt w v ws) (h : AllRight f ws) (ho : f < 1 ∨ 64 < f) :
    Calls Try.prog 3 #[.int .i64 f, .int .i64 d, v] w (Ans w) := by
  have HL := Lib.hid (largest_ok f ws v w hv h)
  obtain ⟨A, c, rfl, hl, hat⟩ := hv
  clear hat h
  by_cases h1 : f < 1
  · clear ho
    go_enter Try.func3, Try.ntmps3
    go_wp2_with fail
    refine HL.out.mono ?_
    rintro e w1 ⟨v1, l, rfl, hlg, hi1, hb1⟩
    have HB1 := Lib.hid hb1
    clear hi1 hb1 hlg
    go_wp2_with fail
    refine (begins_any _).mono ?_
    rintro e w3 ⟨rfl, hb3⟩
    go_wp2_with fail
    go_ret
    exact ⟨rfl, HB1.out.trans (hb3.mono HB1.out.size)⟩
  · have t1 : decide (f < 1) = false := decide_eq_false h1
    have h2 : 64 < f := by omega
    have t2 : decide (64 < f) = true := decide_eq_true h2
    clear ho
    go_enter Try.func3, Try.ntmps3
    go_wp2_with fail
    refine HL.out.mono ?_
    rintro e w1 ⟨v1, l, rfl, hlg, hi1, hb1⟩
    have HB1 := Lib.hid hb1
    clear hi1 hb1 hlg
    go_wp2_with fail
    refine (begins_any _).mono ?_
    rintro e w3 ⟨rfl, hb3⟩
    go_wp2_with fail
    go_ret
    exact ⟨rfl, HB1.out.trans (hb3.mono HB1.out.size)⟩

theorem below_drew4 {B : Nat} {a w : World} (h : Below B a w) : Below B a w.drew := ⟨h.os, h.tape, h.output, h.size, h.block⟩
theorem keepF {X W W' : World} {p : Addr} {v : Value} (hc : ∀ W, Below X.heap.size X W → W.cell? p = some v) (h : W.cell? p = some v ∧ Hid (Below X.heap.size X W)) (hb : Below W.heap.size W W') :
    W'.cell? p = some v ∧ Hid (Below X.heap.size X W') := ⟨hc _ (h.2.out.trans (hb.mono h.2.out.size)), Lib.hid (h.2.out.trans (hb.mono h.2.out.size))⟩
theorem keepD {X W : World} {p : Addr} {v : Value} (hc : ∀ W, Below X.heap.size X W → W.cell? p = some v) (h : Hid (Below X.heap.size X W)) :
    W.drew.cell? p = some v ∧ Hid (Below X.heap.size X W.drew) := ⟨hc _ (below_drew4 h.out), Lib.hid (below_drew4 h.out)⟩

def FrameRel (f l : Nat) (xs : List Int) (a : Int) (w : World) (g : Nat) (s9 s10 s11 : Value) (wr : World) : Prop :=
  ∃ k u : Nat, k ≤ xs.length ∧ g = xs.length - k ∧ sumT xs k = (u : Int) ∧ u ≤ f ∧ s11 = .int .i64 k ∧ s10 = .int .i64 (a + u) ∧ s9 = .int .u64 (roundN f u l) ∧ Below w.heap.size w wr

set_option maxRecDepth 100000 in
set_option maxHeartbeats 1000000 in
theorem frameLaw_in (f : Nat) (d : Int) (ws : List Int) (v : Value) (w : World) (hv : IntsAt w v ws) (h : AllRight f ws) (h1 : 1 ≤ f) (h64 : f ≤ 64) :
    Calls Try.prog 3 #[.int .i64 f, .int .i64 d, v] w (Ans w) := by
  have HL := Lib.hid (largest_ok f ws v w hv h)
  obtain ⟨g0, g1, hr⟩ := h
  have HR0 := Lib.hid hr
  have hl64 := hr.1
  obtain ⟨A, c, rfl, hl, hat⟩ := hv
  clear hat hr
  have hl0 : modN d f < f := modN_lt h1
  have HM := Lib.hid (fun u : Nat => (show modN (d.tmod f + u) f = (modN d f + u) % f by rw [modN_add h1, modN_tmod d h1]))
  have hb := tmod_bound d h1 h64
  have HF : Hid (frN (f : Int) = f) := by unfold Hid frN; omega
  have HAP := Lib.hid (fun u n (h : u + n ≤ f) => apart_of hl0 h64 h)
  have HWH := Lib.hid (round_whole hl0 h64)
  have HR := Lib.hid (fun (u n : Nat) (h : n ≤ f) W => (show Calls Try.prog 6 #[.int .i64 f, .int .i64 (d.tmod f + u), .int .i64 n] W (RetB (.int .u64 (roundN f n ((modN d f + u) % f))) W) by
    have := round_any (f : Int) (d.tmod f + u) n W
    rwa [HF.out, HM.out, show frN (n : Int) = n by unfold frN; omega] at this))
  have HALL := Lib.hid (fun W => (show Calls Try.prog 8 #[.int .i64 f] W (Ret (.int .u64 (allN f)) W) by have := all_any (f : Int) W; rwa [HF.out] at this))
  have hrt : Hid (roundN f 0 (modN d f) = 0) := round_zero _ _
  have t1 : decide ((f : Int) < 1) = false := decide_eq_false (by omega)
  have t2 : decide ((64 : Int) < (f : Int)) = false := decide_eq_false (by omega)
  have hfz : ((f : Int) != 0) = true := by simp; omega
  generalize modN d f = l0 at *
  generalize ha : d.tmod f = a at *
  go_enter Try.func3, Try.ntmps3
  go_wp2_with fail
  refine HL.out.mono ?_
  rintro e w1 ⟨v1, l, rfl, hlg, hi1, hb1⟩
  have HB1 := Lib.hid hb1
  have HG0 := Lib.hid (show ∀ i, i < l.length → 0 ≤ l.getD i 0 from fun i hi => (hlg.bound HR0.out g0 g1 i (by rw [hlg.length] at hi; exact hi)).1)
  have HSUM := Lib.hid (hlg.sum HR0.out)
  have hll := hlg.length
  obtain ⟨A1, c1, rfl, hm1, hat1⟩ := hi1
  rw [hll] at hat1 ⊢
  have HLL := Lib.hid hll
  have HAT1 := Lib.hid hat1
  have hnn : ((ws.length : Int) != (ws.length : Int)) = false := by simp
  clear hlg hb1 hat1 hm1 hll
  go_wp2_with fail
  go_quiet (fail)
  have HB2 := Lib.hid (below_drewN HB1.out nq)
  go_wp2_with fail
  go_loopg [9, 10, 11] ws.length (fun g s9 s10 s11 wr => FrameRel f l0 l a (w1.drewN nq) g s9 s10 s11 wr)
  case atStart => exact ⟨0, 0, Nat.zero_le _, HLL.out.symm, sumT_zero l, Nat.zero_le _, rfl, by go_num, by rw [hrt.out]; rfl, Below.refl _ _⟩
  case round =>
    obtain ⟨k, u, hk, hg, hs, hu, rfl, rfl, rfl, hbw⟩ := hrel
    rw [HLL.out] at hk hg
    have HG := Lib.hid hg
    have HS := Lib.hid hs
    have HW := Lib.hid hbw
    by_cases hlt : k < ws.length
    · clear hg hs hbw
      obtain ⟨x, hx⟩ := ex_at (xs := l) (k := k) (by rw [HLL.out]; exact hlt)
      obtain ⟨b, o, rfl, gb, hc⟩ := HAT1.out (by omega)
      obtain ⟨u', n, hu', hxn, hs1, hun⟩ := given HG0.out HSUM.out hx
      have huu : u' = u := by have := HS.out; omega
      rw [huu] at hs1 hun
      rw [hxn] at hx
      clear hu' hxn huu u' x
      have HCELL := Lib.hid (fun W (hb : Below (w1.drewN nq).heap.size (w1.drewN nq) W) => (hb.cell (p := ⟨b, o + k, none⟩) gb).trans (hc k _ hx))
      have r1 : wr.cell? ⟨b, o + k, none⟩ = some (.int .i64 n) := HCELL.out wr HW.out
      have HS1 := Lib.hid hs1
      clear hc hx hs1
      have hap := HAP.out u n hun
      have HRR := Lib.hid (fun W => HR.out u n (by omega) W)
      have y1 := round_lt f u l0
      have y2 := round_lt f n ((l0 + u) % f)
      have b1 := bits_and_u64_nat _ _ y2 y1
      rw [hap.meet] at b1
      have b2 := bits_or_u64_nat _ _ y1 y2
      rw [hap.join] at b2
      have HC := Lib.hid (fun W => refCount_any (roundN f n ((l0 + u) % f)) W y2)
      rw [hap.count] at HC
      have a2 : IntKind.i64.wrap (a + (u : Int) + (n : Int)) = a + ((u + n : Nat) : Int) := by rw [IntWalk.i64_in _ (by omega)]; omega
      have hnn2 : ((n : Int) != (n : Int)) = false := by simp
      generalize hz : roundN f (u + n) l0 = z at *
      have HZ := Lib.hid hz
      generalize roundN f u l0 = y at *
      generalize roundN f n ((l0 + u) % f) = q at *
      clear hz hap y1 y2
      go_wp2_with fail
      refine (HRR.out _).mono ?_
      rintro e w2' ⟨rfl, hb2⟩
      have HW2 := Lib.hid (HW.out.trans (hb2.mono HW.out.size))
      have r2 := HCELL.out _ HW2.out
      clear hb2 r1
      go_wp2_with fail
      go_region_held3 (fun w' => w'.cell? ⟨b, o + k, none⟩ = some (.int .i64 n) ∧ Hid (Below (w1.drewN nq).heap.size (w1.drewN nq) w'))
        (first | exact ⟨r2, HW2⟩ | exact keepD HCELL.out HW2 | exact keepF HCELL.out (by assumption) (by assumption))
        (first | (go_at_call 7; refine (HC.out _).mono ?_; rintro e w' ⟨rfl, hb⟩))
      have hS3 : w'.cell? ⟨b, o + k, none⟩ = some (.int .i64 n) ∧ Hid (Below (w1.drewN nq).heap.size (w1.drewN nq) w') := by assumption
      have r3 := hS3.1
      have HW3 := hS3.2
      clear hS3
      go_wp2_with fail
      go_roundg (ws.length - (k + 1))
      case measure => have := HG.out; omega
      case rel => exact ⟨k + 1, u + n, by rw [HLL.out]; omega, by rw [HLL.out], HS1.out, hun, by go_num, by go_num, by rw [HZ.out], HW3.out⟩
    · have hkl : k = ws.length := by omega
      have huf : u = f := by
        have h1 := HSUM.out
        rw [sumT_all (by rw [HLL.out]; omega), h1] at hs
        omega
      subst huf
      rw [HWH.out]
      have HBW := Lib.hid (HB2.out.trans (hbw.mono HB2.out.size))
      clear hs hbw hg
      generalize allN u = al at *
      go_wp2_with (go_at_call 8; refine (HALL.out _).mono ?_; rintro e w' ⟨rfl, rfl⟩)
      refine (begins_any _).mono ?_
      rintro e w3 ⟨rfl, hb3⟩
      go_wp2_with fail
      go_ret
      exact ⟨rfl, HBW.out.trans (hb3.mono HBW.out.size)⟩

theorem frameLaw_any (f d : Int) (ws : List Int) (v : Value) (w : World) (hv : IntsAt w v ws) (_ : -9223372036854775808 ≤ f) (_ : f ≤ 9223372036854775807) (_ : -9223372036854775808 ≤ d) (_ : d ≤ 9223372036854775807) :
    Calls Try.prog 3 #[.int .i64 f, .int .i64 d, v] w (Ans w) := by
  by_cases h : AllRight f ws
  · by_cases ho : f < 1 ∨ 64 < f
    · exact frameLaw_out f d ws v w hv h ho
    · obtain ⟨F, rfl⟩ := Int.eq_ofNat_of_zero_le (show 0 ≤ f by omega)
      exact frameLaw_in F d ws v w hv h (by omega) (by omega)
  · exact frameLaw_bad f d ws v w hv h
end Go.Proofs.Ytnigoojjbljibaa
