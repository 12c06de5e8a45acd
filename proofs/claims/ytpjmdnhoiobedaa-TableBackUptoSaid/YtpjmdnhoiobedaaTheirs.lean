/-
  Same of the document and theirs of the law, where both tables are the same.
  Conditions: the slices read so.
-/
import Derived.Test.YtpjmdnhoiobedaaRefOf
set_option linter.unusedVariables false
set_option linter.unusedSimpArgs false
namespace Go.Proofs.Ytpjmdnhoiobedaa
open Go.RowKit Go.Sort

set_option maxRecDepth 100000 in
set_option maxHeartbeats 4000000 in
theorem refTbSame_any (x : Tb) (A1 B1 A2 B2 : Option Addr) (c1 d1 c2 d2 : Nat) (w : World) (hi : IntsAt w (.slice A1 x.ts.length c1) x.ts) (hj : IntsAt w (.slice B1 x.ts.length d1) x.ts) (hs : SpansAt w (.slice A2 x.ws.length c2) x.ws) (ht : SpansAt w (.slice B2 x.ws.length d2) x.ws) :
    Calls Try.prog 16 #[.agg #[.int .i64 x.c, .slice A1 x.ts.length c1, .slice A2 x.ws.length c2], .agg #[.int .i64 x.c, .slice B1 x.ts.length d1, .slice B2 x.ws.length d2]] w (RetB (.bool true) w) := by
  obtain ⟨c, ts, ws⟩ := x
  simp only at *
  obtain ⟨nt, hnt⟩ : ∃ n, ts.length = n := ⟨_, rfl⟩
  obtain ⟨ns, hns⟩ : ∃ n, ws.length = n := ⟨_, rfl⟩
  have hnt1 : nt ≤ 9223372036854775807 := by obtain ⟨_, _, _, h, _⟩ := hi; omega
  have hns1 : ns ≤ 2000000 := by have := hs.len; omega
  rw [hnt] at hi hj ⊢
  rw [hns] at hs ht ⊢
  have HNT := Lib.hid hnt
  have HNS := Lib.hid hns
  obtain ⟨w1, P, hw1, hP, hPl, hb1, hpx⟩ := box_any w #[.int .i64 c, .slice A1 nt c1, .slice A2 ns c2] 39
  obtain ⟨w2, Q, hw2, hQ, hQl, hb2, hqx⟩ := box_any w1 #[.int .i64 c, .slice B1 nt d1, .slice B2 ns d2] 39
  have HB2 := Lib.hid (hb1.trans (hb2.mono hb1.size))
  have HI := Lib.hid ((hi.keep hb1).keep hb2)
  have HJ := Lib.hid ((hj.keep hb1).keep hb2)
  have HS := Lib.hid ((hs.keep hb1).keep hb2)
  have HT := Lib.hid ((ht.keep hb1).keep hb2)
  have HPX := Lib.hid (keep_block hpx hb2)
  have HQX := Lib.hid hqx
  obtain ⟨p0, p1, p2⟩ := three_heads HPX.out
  obtain ⟨q0, q1, q2⟩ := three_heads HQX.out
  have e0 : (c != c) = false := by simp
  have mixed : Try.prog.follows .mixedOrders = true := by kernel_rfl
  clear hi hj hs ht hnt hns hb1 hb2 hpx hqx
  go_enter Try.func16, Try.ntmps16
  go_wp2_with fail
  clear hw1 hP hw2 hQ p0 p1 p2 q0 q1 q2
  go_loopg [5] nt (fun gg s5 wr => ∃ k : Nat, k ≤ nt ∧ gg = nt - k ∧ s5 = .int .i64 k ∧ Below w2.heap.size w2 wr)
  case atStart => exact ⟨0, Nat.zero_le _, by omega, rfl, Below.refl _ _⟩
  case round =>
    obtain ⟨k, hk, hg, rfl, hbw⟩ := hrel
    have HG := Lib.hid hg
    have HBW := Lib.hid hbw
    obtain ⟨p0, p1, p2⟩ := three_heads (keep_block HPX.out hbw)
    obtain ⟨q0, q1, q2⟩ := three_heads (keep_block HQX.out hbw)
    clear hg
    by_cases hlt : k < nt
    · have hk0 : (0 : Int) ≤ (k : Int) := by omega
      have hltz : (k : Int) < (nt : Int) := by omega
      obtain ⟨y, hy⟩ := exP_at (xs := ts) (k := k) (by rw [HNT.out]; exact hlt)
      have hii := HI.out.keep hbw
      have hjj := HJ.out.keep hbw
      obtain ⟨A', c', e, _, h3⟩ := hii
      obtain ⟨b, off, e4, hbl, hc⟩ := h3 (by rw [HNT.out]; omega)
      injection e with e1 e2 e3
      rw [e4] at e1
      obtain ⟨B', d', e', _, h3'⟩ := hjj
      obtain ⟨b', off', e4', hbl', hc'⟩ := h3' (by rw [HNT.out]; omega)
      injection e' with e1' e2' e3'
      rw [e4'] at e1'
      subst e1 e1'
      have g0 := hc k y hy
      have g1 := hc' k y hy
      have ey : (y != y) = false := by simp
      clear h3 hc e2 e3 e4 h3' hc' e2' e3' e4' hbw hy
      go_wp2_with fail
      go_quiet (fail)
      go_wp2_with fail
      go_roundg (nt - (k + 1))
      case measure => have := HG.out; omega
      case rel => exact ⟨k + 1, by omega, rfl, by go_num, below_drewN HBW.out _⟩
    · have hltz : ¬ (k : Int) < (nt : Int) := by omega
      clear hbw
      go_wp2_with fail
      clear p0 p1 p2 q0 q1 q2
      go_loopg [6] ns (fun gg s6 wr => ∃ k : Nat, k ≤ ns ∧ gg = ns - k ∧ s6 = .int .i64 k ∧ Below w2.heap.size w2 wr)
      case atStart => exact ⟨0, Nat.zero_le _, by omega, rfl, HBW.out⟩
      case round =>
        obtain ⟨k, hk, hg, rfl, hbw⟩ := hrel
        have HG := Lib.hid hg
        have HBV := Lib.hid hbw
        obtain ⟨p0, p1, p2⟩ := three_heads (keep_block HPX.out hbw)
        obtain ⟨q0, q1, q2⟩ := three_heads (keep_block HQX.out hbw)
        clear hg
        by_cases hlt : k < ns
        · have hk0 : (0 : Int) ≤ (k : Int) := by omega
          have hltz : (k : Int) < (ns : Int) := by omega
          obtain ⟨y, hy⟩ := exP_at (xs := ws) (k := k) (by rw [HNS.out]; exact hlt)
          obtain ⟨A', c', e, _, _, _, h3⟩ := HS.out.keep hbw
          obtain ⟨b, off, e4, hbl, hc⟩ := h3 (by rw [HNS.out]; omega)
          injection e with e1 e2 e3
          rw [e4] at e1
          obtain ⟨B', d', e', _, _, _, h3'⟩ := HT.out.keep hbw
          obtain ⟨b', off', e4', hbl', hc'⟩ := h3' (by rw [HNS.out]; omega)
          injection e' with e1' e2' e3'
          rw [e4'] at e1'
          subst e1 e1'
          obtain ⟨g0, g1⟩ := hc k y hy
          obtain ⟨f0, f1⟩ := hc' k y hy
          obtain ⟨y1, y2⟩ := y
          simp only at g0 g1 f0 f1
          have ey1 : (y1 == y1) = true := by simp
          have ey2 : (y2 == y2) = true := by simp
          clear h3 hc e2 e3 e4 h3' hc' e2' e3' e4' hbw hy
          go_wp2_with fail
          go_quiet (fail)
          go_wp2_with fail
          go_roundg (ns - (k + 1))
          case measure => have := HG.out; omega
          case rel => exact ⟨k + 1, by omega, rfl, by go_num, below_drewN HBV.out _⟩
        · have hltz : ¬ (k : Int) < (ns : Int) := by omega
          have HBE := Lib.hid (HB2.out.trans (HBV.out.mono HB2.out.size))
          clear hbw
          go_wp2_with fail
          go_ret
          exact ⟨rfl, HBE.out⟩

set_option maxRecDepth 100000 in
set_option maxHeartbeats 4000000 in
theorem theirs_any (x : Tb) (A1 B1 A2 B2 : Option Addr) (c1 d1 c2 d2 : Nat) (w : World) (hi : IntsAt w (.slice A1 x.ts.length c1) x.ts) (hj : IntsAt w (.slice B1 x.ts.length d1) x.ts) (hs : SpansAt w (.slice A2 x.ws.length c2) x.ws) (ht : SpansAt w (.slice B2 x.ws.length d2) x.ws) :
    Calls Try.prog 12 #[.agg #[.int .i64 x.c, .slice A1 x.ts.length c1, .slice A2 x.ws.length c2], .agg #[.int .i64 x.c, .slice B1 x.ts.length d1, .slice B2 x.ws.length d2]] w (RetB (.bool true) w) := by
  obtain ⟨w1, P, hw1, hP, hPl, hb1, hpx⟩ := box_any w #[.int .i64 x.c, .slice A1 x.ts.length c1, .slice A2 x.ws.length c2] 38
  obtain ⟨w2, Q, hw2, hQ, hQl, hb2, hqx⟩ := box_any w1 #[.int .i64 x.c, .slice B1 x.ts.length d1, .slice B2 x.ws.length d2] 39
  have HB2 := Lib.hid (hb1.trans (hb2.mono hb1.size))
  have HC := Lib.hid (refTbSame_any x A1 B1 A2 B2 c1 d1 c2 d2 w2 ((hi.keep hb1).keep hb2) ((hj.keep hb1).keep hb2) ((hs.keep hb1).keep hb2) ((ht.keep hb1).keep hb2))
  obtain ⟨p0, p1, p2⟩ := three_heads (keep_block hpx hb2)
  obtain ⟨q0, q1, q2⟩ := three_heads hqx
  clear hi hj hs ht hb1 hb2 hpx hqx
  go_enter Try.func12, Try.ntmps12
  go_wp2_with fail
  refine HC.out.mono ?_
  rintro e w3 ⟨rfl, hb3⟩
  have HB3 := Lib.hid (HB2.out.trans (hb3.mono HB2.out.size))
  clear hb3
  go_wp2_with fail
  go_ret
  exact ⟨rfl, HB3.out⟩
end Go.Proofs.Ytpjmdnhoiobedaa
