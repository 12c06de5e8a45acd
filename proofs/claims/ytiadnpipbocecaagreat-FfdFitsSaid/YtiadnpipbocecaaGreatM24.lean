/-
  Plans held against each other.
  Conditions: the slices read as places.
-/
import Derived.Test.YtiadnpipbocecaaGreatM22
import Derived.Test.YtiadnpipbocecaaGreatM23
import Derived.Test.YtiadnpipbocecaaGreatM01
import Derived.Test.YtiadnpipbocecaaGreatM05
import Derived.Test.YtiadnpipbocecaaGreatM02
import Derived.Shelf.RegionOpenPlain

/-
  Two slices that read alike.
  Conditions: the slices read as wants.
-/
set_option linter.unusedVariables false
namespace Go.Proofs.YtiadnpipbocecaaGreat
open Go.RowKit

set_option maxRecDepth 100000 in
set_option maxHeartbeats 2000000 in
theorem same_any (x y : Value) (ps : List Sp) (w : World) (hx : SpansAt w x ps) (hy : SpansAt w y ps) : Calls Tryz.prog 13 #[x, y] w (RetB (.bool true) w) := by
  obtain ⟨A1, k1, rfl, a1, a2, a3, a4⟩ := hx
  obtain ⟨A2, k2, rfl, b1, b2, b3, b4⟩ := hy
  have HX := Lib.hid a4
  have HY := Lib.hid b4
  generalize hn : ps.length = n at *
  have HN := Lib.hid hn
  have hnn : ((n : Int) != (n : Int)) = false := by simp
  clear a4 b4 hn
  go_enter Tryz.func13, Tryz.ntmps13
  go_wp2_with fail
  go_loopg [5] n (fun g s wr => ∃ i : Nat, i ≤ n ∧ g = n - i ∧ s = .int .i64 i ∧ Below w.heap.size w wr)
  case atStart => exact ⟨0, Nat.zero_le _, by omega, rfl, Below.refl _ _⟩
  case round =>
    obtain ⟨i, hin, hgg, rfl, hbw⟩ := hrel
    have HG := Lib.hid hgg
    have HB := Lib.hid hbw
    clear hgg hbw
    by_cases hlt : i < n
    · obtain ⟨bx, ox, hA1, hl1, hc1⟩ := HX.out (by omega)
      obtain ⟨by_, oy, hA2, hl2, hc2⟩ := HY.out (by omega)
      subst hA1 hA2
      obtain ⟨z, hz⟩ := ex_at (xs := ps) (k := i) (by rw [HN.out]; exact hlt)
      obtain ⟨c1, c2⟩ := (hc1 i z hz).keep HB.out hl1
      obtain ⟨d1, d2⟩ := (hc2 i z hz).keep HB.out hl2
      obtain ⟨z1, z2⟩ := z
      simp only at c1 c2 d1 d2
      have e1 : (z1 != z1) = false := by simp
      have e2 : (z2 != z2) = false := by simp
      have hltz : (i : Int) < (n : Int) := by omega
      clear hc1 hc2 hz
      go_wp2_with fail
      go_quiet (fail)
      go_wp2_with fail
      go_roundg (n - (i + 1))
      case measure => have := HG.out; omega
      case rel => exact ⟨i + 1, by omega, rfl, by go_num, below_drewN HB.out _⟩
    · have hltz : ¬ (i : Int) < (n : Int) := by omega
      go_wp2
      go_ret
      exact ⟨rfl, HB.out⟩
end Go.Proofs.YtiadnpipbocecaaGreat

/-
  The page's example comes out.
  Conditions: none.
-/
set_option linter.unusedVariables false
set_option linter.unusedSimpArgs false
namespace Go.Proofs.YtiadnpipbocecaaGreat
open Go.RowKit

theorem lit_spans (W : World) (ps : List Sp) (t : Nat) (hl : ps.length ≤ 100000) : SpansAt (W.alloc (.cells (spansCells ps).toArray t)) (.slice (some ⟨W.heap.size, 0, none⟩) ps.length ps.length) ps := by
  refine spans_of_own (base := 0) (e := t) ?_ (by omega)
  have := World.ownsRow_lit (base := 0) (e := t) (size := 2) W (spansCells ps).toArray ps.length (Nat.zero_le _) (by unfold maxLen; omega) (by simp [spansCells_length])
  simpa using this
def exW : List Sp := [(1, 3), (2, 3), (3, 2)]
def exF : List Pl := [⟨1, 3, 0, []⟩, ⟨2, 3, 1, []⟩]
theorem ex_fit : fitT 4 3 [] (sortT exW) = (exF, [(3, 2)]) := by decide +kernel
theorem right_nil {f : Int} {m : Nat} (hf : 2 ≤ f) (hf2 : f ≤ 64) (h0 : 0 < coresN m) (hm : m < 65536) : Right f m [] := by
  refine ⟨hf, hf2, fun e => ?_, hm, fun x hx => (by cases hx), fun i x y hx => (by simp at hx), fun c _ t _ => Nat.zero_le _, h0, fun c _ _ => ?_⟩
  · subst e
    have e0 : ∀ k : Nat, cntT 0 k = 0 := fun k => by
      induction k with
      | zero => rfl
      | succ k ih => rw [cntT_succ, ih, Nat.zero_testBit]; rfl
    unfold coresN at h0
    rw [e0] at h0
    omega
  · have : loadN [] (c : Int) = 0 := by
      unfold loadN
      rw [show pcsOf [] = [] from rfl, winN_nil]
      rfl
    omega
theorem ex_goes : Goes 4 3 [] exW := ⟨right_nil (by decide) (by decide) (by decide) (by decide), by decide, by decide⟩
theorem ex_ints : IntsS exW := by
  intro s hs
  simp [exW] at hs
  rcases hs with rfl | rfl | rfl <;> exact ⟨by decide, by decide⟩
theorem light_nil : LightL [] := ⟨by decide, fun x hx => by cases hx⟩
theorem ex_sure : sureT 4 2 [(1, 3)] = true := by decide
theorem ex_unsure : sureT 4 0 [] = false := by decide
theorem ex_found : findU exF 2 = some ⟨2, 3, 1, []⟩ := by decide

set_option maxRecDepth 100000 in
set_option maxHeartbeats 4000000 in
theorem awake_any (w : World) : Calls Tryz.prog 5 #[] w (RetB (.bool true) w) := by
  have HA : Hid (SpansAt (w.alloc (.cells #[.int .i64 1, .int .i64 3, .int .i64 2, .int .i64 3, .int .i64 3, .int .i64 2] 45)) (.slice (some ⟨w.heap.size, 0, none⟩) 3 3) exW) := lit_spans w exW 45 (by decide)
  obtain ⟨w0, L, hw0, hL, hLl, hb0, hlb⟩ := box_any w #[.int .i64 1, .int .i64 3, .int .i64 2, .int .i64 3, .int .i64 3, .int .i64 2] 45
  rw [hw0, hL] at HA
  have HB0 := Lib.hid hb0
  have HFT := Lib.hid (fit_any 4 3 (.slice none 0 0) [] (.slice (some ⟨L, 0, none⟩) 3 3) exW w0 (PlsIn.nil _ _) light_nil HA.out ex_ints (by decide) (by decide))
  unfold planA at HFT
  clear hb0 hlb HA
  go_enter Tryz.func5, Tryz.ntmps5
  go_wp2_with fail
  refine HFT.out.mono ?_
  rintro e w1 ⟨E, hwhy, hb1, hcase⟩
  have hE : E = 0 := hwhy.unique ex_goes.why
  obtain ⟨_, v, vo, rfl, hpl, hov⟩ := hcase.resolve_right fun h => h.1 hE
  rw [ex_fit] at hpl hov
  have HB1 := Lib.hid (HB0.out.trans (hb1.mono HB0.out.size))
  obtain ⟨A, d, rfl, _, _⟩ := hpl.form
  have hlen : exF.length = 2 := rfl
  rw [hlen] at hpl ⊢
  obtain ⟨w2, Q, hw2, hQ, hQl, hb2, hqb⟩ := box_any w1 #[.int .i64 0, .int .u32 0, .slice none 0 0] 25
  have HQB := Lib.hid hqb
  obtain ⟨w3, hw3⟩ : ∃ w3, w2.setRow Q #[.int .i64 4, .int .u32 3, .slice A 2 d] = w3 := ⟨_, rfl⟩
  have hb3 : Below w1.heap.size w1 w3 := by rw [← hw3]; exact below_row hb2 (by omega) _
  have HB3 := Lib.hid (HB1.out.trans (hb3.mono HB1.out.size))
  have HQ3 : Hid (w3.heap[Q]? = some (.cells #[.int .i64 4, .int .u32 3, .slice A 2 d] 25 (0, 0))) := Lib.hid (by rw [← hw3]; exact setRow_heap _ _ _ _ _ _ hqb)
  have HP3 := Lib.hid (hpl.any.keep hb3)
  have HO3 := Lib.hid (hov.keep hb3)
  have HFI := Lib.hid (refFind_any 4 3 (.slice A 2 d) exF 2 w3 HP3.out (by decide))
  rw [ex_found] at HFI
  unfold RetFind planA plA at HFI
  obtain ⟨q0, q1, q2⟩ := three_heads HQ3.out
  clear hb1 hb2 hb3 hpl hov hqb hwhy hE
  go_wp2_with (refine wpList_store_row rfl _ _ _ rfl Q #[.int .i64 4, .int .u32 3, .slice A 2 d] rfl rfl 25 _ HQB.out (Tryz.sizePn _ _ _) rfl (one3 _ _ _ _ _) ?_)
  refine HFI.out.mono ?_
  rintro e w4 ⟨vx, rfl, hx, hb4⟩
  have HB4 := Lib.hid (HB3.out.trans (hb4.mono HB3.out.size))
  obtain ⟨Ax, dx, rfl⟩ := hx.form
  obtain ⟨w5, X, hw5, hX, hXl, hb5, hxb⟩ := box_any w4 #[.int .i64 2, .int .i64 3, .int .i64 1, .slice Ax 0 dx] 43
  have HB5 := Lib.hid (HB4.out.trans (hb5.mono HB4.out.size))
  have HX5 := Lib.hid hxb
  have HQ5 := Lib.hid (keep_block (keep_block HQ3.out hb4) hb5)
  have HO5 := Lib.hid ((HO3.out.keep hb4).keep hb5)
  obtain ⟨w6, S6, hw6, hS6, hSl6, hb6, hsb6⟩ := box_any w5 #[.int .i64 3, .int .i64 2] 45
  have HB6 := Lib.hid (HB5.out.trans (hb6.mono HB5.out.size))
  have HSM := Lib.hid (same_any vo (.slice (some ⟨S6, 0, none⟩) 1 1) [(3, 2)] w6 (HO5.out.keep hb6) (by
    have := lit_spans w5 [(3, 2)] 45 (by decide)
    rw [hS6] at this
    rw [← hw6]
    exact this))
  have HX6 := Lib.hid (keep_block HX5.out hb6)
  have HQ6 := Lib.hid (keep_block HQ5.out hb6)
  have hlx : (Option.getD (some (⟨2, 3, 1, []⟩ : Pl)) zeroPl).ps.length = 0 := rfl
  clear hb4 hb5 hb6 hxb hsb6 hx q0 q1 q2 hw3 hw2 hQ hw0 hL
  simp only [hlx, Option.getD, Option.isSome]
  go_wp2_with fail
  refine HSM.out.mono ?_
  rintro e w7 ⟨rfl, hb7⟩
  have HB7 := Lib.hid (HB6.out.trans (hb7.mono HB6.out.size))
  have HX7 := Lib.hid (keep_block HX6.out hb7)
  have HQ7 := Lib.hid (keep_block HQ6.out hb7)
  obtain ⟨x0, x1, x2, x3⟩ := four_heads HX7.out
  obtain ⟨q0, q1, q2⟩ := three_heads HQ7.out
  obtain ⟨w8, S8, hw8, hS8, hSl8, hb8, hsb8⟩ := box_any w7 #[.int .i64 1, .int .i64 3] 45
  have HB8 := Lib.hid (HB7.out.trans (hb8.mono HB7.out.size))
  have HSU := Lib.hid (sure_any 4 2 (.slice (some ⟨S8, 0, none⟩) 1 1) [(1, 3)] w8 (by
    have := lit_spans w7 [(1, 3)] 45 (by decide)
    rw [hS8] at this
    rw [← hw8]
    exact this) (by intro s hs; simp at hs; subst hs; exact ⟨by decide, by decide⟩))
  rw [ex_sure] at HSU
  clear hb7 hb8 hsb8 hw5 hX hw6 hS6
  go_wp2_with fail
  refine HSU.out.mono ?_
  rintro e w9 ⟨rfl, hb9⟩
  have HB9 := Lib.hid (HB8.out.trans (hb9.mono HB8.out.size))
  have HSN := Lib.hid (sure_any 4 0 (.slice none 0 0) [] w9 (SpansAt.nil _) (fun s hs => by cases hs))
  rw [ex_unsure] at HSN
  clear hb9 hw8 hS8 x0 x1 x2 x3 q0 q1 q2
  go_wp2_with fail
  refine HSN.out.mono ?_
  rintro e w10 ⟨rfl, hb10⟩
  have HB10 := Lib.hid (HB9.out.trans (hb10.mono HB9.out.size))
  clear hb10
  go_wp2_with fail
  go_ret
  exact ⟨rfl, HB10.out⟩
end Go.Proofs.YtiadnpipbocecaaGreat

/-
  An argument that is a slice of wants, of whatever length; its first ones.
  Conditions: none.
-/
set_option linter.unusedVariables false
namespace Go.Proofs.YtiadnpipbocecaaGreat
open Go.RowKit

/-- An argument: it may be of any length. -/
def ArgAt (W : World) (v : Value) (ps : List Sp) : Prop :=
  ∃ A c, v = .slice A ps.length c ∧ ps.length ≤ c ∧ c ≤ 9223372036854775807 ∧ (A = none → c = 0) ∧
    (0 < ps.length → ∃ b off, A = some ⟨b, off, none⟩ ∧ b < W.heap.size ∧ ∀ (j : Nat) (p : Sp), ps[j]? = some p → PairAt W b (off + j * 2) p)
theorem ArgAt.keep {W W' : World} {v : Value} {ps : List Sp} (h : ArgAt W v ps) (hb : Below W.heap.size W W') : ArgAt W' v ps := by
  obtain ⟨A, c, h1, h2, h3, h4, h5⟩ := h
  refine ⟨A, c, h1, h2, h3, h4, fun hn => ?_⟩
  obtain ⟨b, off, e, hlt, hc⟩ := h5 hn
  exact ⟨b, off, e, Nat.lt_of_lt_of_le hlt hb.size, fun j x hx => (hc j x hx).keep hb hlt⟩
/-- Its first ones. -/
theorem ArgAt.cut {W : World} {A : Option Addr} {n c : Nat} {ps : List Sp} (h : ArgAt W (.slice A n c) ps) (N : Nat) (hN : N ≤ 2000000) : SpansAt W (.slice A (min n N) c) (ps.take N) := by
  obtain ⟨A', c', h1, h2, h3, h4, h5⟩ := h
  injection h1 with e1 e2 e3
  subst e1 e2 e3
  have hl : (ps.take N).length = min ps.length N := by rw [List.length_take, Nat.min_comm]
  have hmin : min ps.length N ≤ ps.length := Nat.min_le_left _ _
  have hmin2 : min ps.length N ≤ N := Nat.min_le_right _ _
  refine ⟨A, c, by rw [hl], by omega, by omega, h3, fun hn => ?_⟩
  obtain ⟨b, off, e, hlt, hc⟩ := h5 (by omega)
  refine ⟨b, off, e, hlt, fun j p hj => hc j p ?_⟩
  rw [List.getElem?_take] at hj
  split at hj
  · exact hj
  · cases hj
end Go.Proofs.YtiadnpipbocecaaGreat

/-
  Has a plan not too much?
  Conditions: the slice reads as places.
-/
set_option linter.unusedVariables false
namespace Go.Proofs.YtiadnpipbocecaaGreat
open Go.RowKit

/-- What Light tells. -/
def Lit (l : List Pl) : Prop := (∀ (k : Nat) (x : Pl), k < 300 → l[k]? = some x → x.ps.length ≤ 20) ∧ l.length ≤ 60
theorem Lit.light {l : List Pl} (h : Lit l) (ho : ∀ x ∈ l, PlOk x) : LightL l :=
  ⟨by have := h.2; omega, fun x hx => ⟨ho x hx, by
    obtain ⟨k, hk⟩ := List.mem_iff_getElem?.1 hx
    have h1 := (List.getElem?_eq_some_iff.1 hk).1
    have h2 := h.2
    have := h.1 k x (by omega) hk
    omega⟩⟩

set_option maxRecDepth 100000 in
set_option maxHeartbeats 2000000 in
theorem light_any (f : Int) (m : Nat) (v : Value) (l : List Pl) (w : World) (h : PlsAt w v l) :
    Calls Tryz.prog 4 #[planA f m v] w (RetIff (Lit l) w) := by
  obtain ⟨A, cA, rfl, hlc, hcm⟩ := h.form
  have HL := Lib.hid h
  obtain ⟨w1, P, hw1, hP, hPl, hb1, hbox⟩ := box_any w #[.int .i64 f, .int .u32 m, .slice A l.length cA] 25
  obtain ⟨n, hn⟩ : ∃ n, l.length = n := ⟨_, rfl⟩
  rw [hn] at HL hlc hw1 hbox ⊢
  have HN := Lib.hid hn
  have HB1 := Lib.hid hb1
  have HBOX := Lib.hid hbox
  obtain ⟨r0, r1, r2⟩ := three_heads hbox
  clear h hn hb1 hbox
  unfold planA
  go_enter Tryz.func4, Tryz.ntmps4
  go_wp2_with fail
  clear hw1 hP r0 r1 r2
  go_loopg [3] n (fun gg s3 wr => ∃ k : Nat, k ≤ n ∧ gg = n - k ∧ s3 = .int .i64 k ∧ Hid (∀ (i : Nat) (x : Pl), i < k → l[i]? = some x → x.ps.length ≤ 20) ∧ k ≤ 300 ∧ Below w1.heap.size w1 wr)
  case atStart => exact ⟨0, Nat.zero_le _, by omega, rfl, fun i x hi => absurd hi (by omega), by omega, Below.refl _ w1⟩
  case round =>
    obtain ⟨k, hk, hg, rfl, HA, hk3, hbw⟩ := hrel
    have HBW := Lib.hid hbw
    have HB := Lib.hid (HB1.out.trans (hbw.mono HB1.out.size))
    have HG := Lib.hid hg
    have hPl2 : P < wr.heap.size := Nat.lt_of_lt_of_le hPl hbw.size
    have HBX := Lib.hid ((hbw.block P hPl).trans HBOX.out)
    obtain ⟨r0, r1, r2⟩ := three_heads HBX.out
    have HLR := Lib.hid (HL.out.keep HB.out)
    clear hbw hg
    by_cases hlt : k < n
    · by_cases hl3 : k < 300
      · have hl3z : (k : Int) < 300 := by omega
        have hk0 : (0 : Int) ≤ (k : Int) := by omega
        have hltz : (k : Int) < (n : Int) := by omega
        obtain ⟨x, hx⟩ := exP_at (xs := l) (k := k) (by rw [HN.out]; exact hlt)
        obtain ⟨b, off, B, d, hA, hbl, _, ⟨c0, c1, c2, c3⟩, hps⟩ := HLR.out.at_ hx
        subst hA
        simp only at c0 c1 c2 c3
        have HX := Lib.hid hx
        have HPS := Lib.hid hps
        clear hx hps
        by_cases hp : x.ps.length ≤ 20
        · have hpz : decide ((20 : Int) < (x.ps.length : Int)) = false := decide_eq_false (by omega)
          have HE : Hid (∀ (i : Nat) (z : Pl), i < k + 1 → l[i]? = some z → z.ps.length ≤ 20) := Lib.hid (fun i z hi hz => by
            rcases Nat.lt_succ_iff_lt_or_eq.1 hi with h | rfl
            · exact HA i z h hz
            · rw [HX.out] at hz
              cases hz
              exact hp)
          go_wp2_with fail
          go_roundg (n - (k + 1))
          case measure => have := HG.out; omega
          case rel => exact ⟨k + 1, by omega, rfl, by go_num, HE.out, by omega, HBW.out⟩
        · have hpz : (20 : Int) < (x.ps.length : Int) := by omega
          have HNO := Lib.hid (show ¬ Lit l from fun h => hp (h.1 k x hl3 HX.out))
          go_wp2_with fail
          go_ret
          exact RetIff.no HNO.out HB.out
      · have hltz : (k : Int) < (n : Int) := by omega
        have hl3z : ¬ (k : Int) < 300 := by omega
        have hnz : decide ((n : Int) ≤ 60) = false := decide_eq_false (by omega)
        have HNO := Lib.hid (show ¬ Lit l from fun h => by have := h.2; have := HN.out; omega)
        go_wp2_with fail
        go_ret
        exact RetIff.no HNO.out HB.out
    · have hltz : ¬ (k : Int) < (n : Int) := by omega
      by_cases hn6 : n ≤ 60
      · have hnz : (n : Int) ≤ 60 := by omega
        have HYE := Lib.hid (show Lit l from ⟨fun i x _ hx => HA i x (by have := (List.getElem?_eq_some_iff.1 hx).1; have := HN.out; omega) hx, by rw [HN.out]; exact hn6⟩)
        go_wp2_with fail
        go_ret
        exact RetIff.yes HYE.out HB.out
      · have hnz : decide ((n : Int) ≤ 60) = false := decide_eq_false (by omega)
        have HNO := Lib.hid (show ¬ Lit l from fun h => by have := h.2; have := HN.out; omega)
        go_wp2_with fail
        go_ret
        exact RetIff.no HNO.out HB.out
end Go.Proofs.YtiadnpipbocecaaGreat

/-
  Pieces and places held against each other.
  Conditions: the slices read as pieces.
-/
set_option linter.unusedVariables false
namespace Go.Proofs.YtiadnpipbocecaaGreat
open Go.RowKit

theorem takeP_same {α : Type} {xs ys : List α} {k : Nat} {x y : α} (h : xs.take k = ys.take k) (hx : xs[k]? = some x) (hy : ys[k]? = some y) (e : x = y) : xs.take (k + 1) = ys.take (k + 1) := by
  rw [List.take_add_one, List.take_add_one, h, hx, hy, e]
theorem differP {α : Type} {xs ys : List α} {k : Nat} {x y : α} (hx : xs[k]? = some x) (hy : ys[k]? = some y) (e : x ≠ y) : xs ≠ ys := by
  rintro rfl
  rw [hx] at hy
  exact e (Option.some.inj hy)

theorem pl_no {x y : Pl} (h : x.u ≠ y.u ∨ x.s ≠ y.s ∨ x.c ≠ y.c ∨ x.ps ≠ y.ps) : decide (x = y) = false := decide_eq_false fun e => by
  subst e
  simp at h
theorem pl_same {x y : Pl} (h1 : x.u = y.u) (h2 : x.s = y.s) (h3 : x.c = y.c) : decide (x = y) = decide (x.ps = y.ps) := by
  by_cases h : x.ps = y.ps
  · rw [decide_eq_true h, decide_eq_true (Pl.ext' h1 h2 h3 h)]
  · rw [decide_eq_false h, pl_no (.inr (.inr (.inr h)))]

set_option maxRecDepth 100000 in
set_option maxHeartbeats 4000000 in
theorem refSamePlace_any (u v : Value) (x y : Pl) (w : World) (hs : PcsAt w u x.ps) (ht : PcsAt w v y.ps) :
    Calls Tryz.prog 30 #[plA u x, plA v y] w (RetB (.bool (decide (x = y))) w) := by
  have HA := Lib.hid hs
  have HB := Lib.hid ht
  have hbA := hs.bound
  have hbB := ht.bound
  obtain ⟨A, c, rfl⟩ := hs.form
  obtain ⟨B, d, rfl⟩ := ht.form
  have HNO := Lib.hid (@pl_no x y)
  have HSA := Lib.hid (@pl_same x y)
  obtain ⟨xu, xs, xc, ps⟩ := x
  obtain ⟨yu, ys, yc, qs⟩ := y
  simp only at *
  obtain ⟨n, hn⟩ : ∃ n, ps.length = n := ⟨_, rfl⟩
  obtain ⟨m, hm⟩ : ∃ m, qs.length = m := ⟨_, rfl⟩
  rw [hn] at HA hbA ⊢
  rw [hm] at HB hbB ⊢
  have HN := Lib.hid hn
  have HM := Lib.hid hm
  obtain ⟨R, hR⟩ : ∃ R, decide ((⟨xu, xs, xc, ps⟩ : Pl) = ⟨yu, ys, yc, qs⟩) = R := ⟨_, rfl⟩
  rw [hR] at HNO HSA ⊢
  obtain ⟨w1, P, hw1, hP, hPl, hb1, hbox⟩ := box_any w #[.int .i64 xu, .int .i64 xs, .int .i64 xc, .slice A n c] 43
  obtain ⟨w2, X, hw2, hX, hXl, hb2, hxbox⟩ := box_any w1 #[.int .i64 yu, .int .i64 ys, .int .i64 yc, .slice B m d] 43
  have HB2 := Lib.hid (hb1.trans (hb2.mono hb1.size))
  have HPB := Lib.hid (keep_block hbox hb2)
  have HXB := Lib.hid hxbox
  obtain ⟨p0, p1, p2, p3⟩ := four_heads HPB.out
  obtain ⟨q0, q1, q2, q3⟩ := four_heads hxbox
  have HA2 := Lib.hid (HA.out.keep HB2.out)
  have HBB2 := Lib.hid (HB.out.keep HB2.out)
  unfold plA
  clear hs ht hn hm hR hb1 hb2 hbox hxbox
  by_cases h1 : xu = yu
  · have e1 : (xu == yu) = true := by simpa using h1
    have e1' : (xu != yu) = false := by simpa using h1
    by_cases h2 : xs = ys
    · have e2 : (xs == ys) = true := by simpa using h2
      have e2' : (xs != ys) = false := by simpa using h2
      by_cases h3 : xc = yc
      · have e3 : (xc == yc) = true := by simpa using h3
        have e3' : (xc != yc) = false := by simpa using h3
        have HR := Lib.hid (HSA.out h1 h2 h3)
        clear h1 h2 h3
        by_cases hne : n = m
        · subst hne
          have hn2 : ((n : Int) != (n : Int)) = false := by simp
          go_enter Tryz.func30, Tryz.ntmps30
          go_wp2_with fail
          clear hw1 hP hw2 hX p0 p1 p2 p3 q0 q1 q2 q3
          go_loopg [5] n (fun g i wr => ∃ k : Nat, k ≤ n ∧ g = n - k ∧ i = .int .i64 k ∧ Hid (ps.take k = qs.take k) ∧ Below w2.heap.size w2 wr)
          case atStart => exact ⟨0, Nat.zero_le _, by omega, rfl, rfl, Below.refl _ _⟩
          case round =>
            obtain ⟨k, hk, hg, rfl, HT, hbw⟩ := hrel
            have HG := Lib.hid hg
            have HBW := Lib.hid hbw
            have HBE := Lib.hid (HB2.out.trans (hbw.mono HB2.out.size))
            obtain ⟨p0, p1, p2, p3⟩ := four_heads (keep_block HPB.out hbw)
            obtain ⟨q0, q1, q2, q3⟩ := four_heads (keep_block HXB.out hbw)
            clear hg hbw
            by_cases hlt : k < n
            · have hltz : (k : Int) < (n : Int) := by omega
              have hk0 : (0 : Int) ≤ (k : Int) := by omega
              obtain ⟨x, hx⟩ := exP_at (xs := ps) (k := k) (by rw [HN.out]; exact hlt)
              obtain ⟨y, hy⟩ := exP_at (xs := qs) (k := k) (by rw [HM.out]; exact hlt)
              obtain ⟨b, off, hAe, _, _, x0, x1⟩ := (HA2.out.keep HBW.out).at_ hx
              obtain ⟨b', off', hBe, _, _, y0, y1⟩ := (HBB2.out.keep HBW.out).at_ hy
              subst hAe hBe
              have HTN := Lib.hid (fun e => takeP_same HT hx hy e)
              have HDF := Lib.hid (fun e => differP hx hy e)
              obtain ⟨ac, at_⟩ := x
              obtain ⟨bc, bt⟩ := y
              simp only at x0 x1 y0 y1 HTN HDF
              clear hx hy
              by_cases g1 : ac = bc
              · have f1 : (ac == bc) = true := by simpa using g1
                have f1' : (ac != bc) = false := by simpa using g1
                by_cases g2 : at_ = bt
                · have f2 : ((at_ : Int) == (bt : Int)) = true := by subst g2; simp
                  have f2' : ((at_ : Int) != (bt : Int)) = false := by subst g2; simp
                  have HNX : Hid (ps.take (k + 1) = qs.take (k + 1)) := HTN.out (by rw [g1, g2])
                  clear g1 g2
                  go_wp2_with fail
                  go_quiet (fail)
                  go_wp2_with fail
                  go_roundg (n - (k + 1))
                  case measure => have := HG.out; omega
                  case rel => exact ⟨k + 1, by omega, rfl, by go_num, HNX, below_drewN HBW.out _⟩
                · have f2 : ((at_ : Int) == (bt : Int)) = false := by simp; omega
                  have f2' : ((at_ : Int) != (bt : Int)) = true := by simp; omega
                  have E : Hid (R = false) := HR.out.trans (decide_eq_false (HDF.out (fun h => g2 (by injection h))))
                  clear g1 g2
                  go_wp2_with fail
                  go_quiet (fail)
                  go_wp2_with fail
                  go_ret
                  exact ⟨ret_bool E.out.symm, below_drewN HBE.out _⟩
              · have f1 : (ac == bc) = false := by simpa using g1
                have f1' : (ac != bc) = true := by simpa using g1
                have E : Hid (R = false) := HR.out.trans (decide_eq_false (HDF.out (fun h => g1 (by injection h))))
                clear g1
                go_wp2_with fail
                go_quiet (fail)
                go_wp2_with fail
                go_ret
                exact ⟨ret_bool E.out.symm, below_drewN HBE.out _⟩
            · have hltz : ¬ (k : Int) < (n : Int) := by omega
              have E : Hid (R = true) := HR.out.trans (decide_eq_true (show ps = qs by
                have h : ps.take k = qs.take k := HT
                rwa [List.take_of_length_le (by rw [HN.out]; omega), List.take_of_length_le (by rw [HM.out]; omega)] at h))
              go_wp2_with fail
              go_ret
              exact ⟨ret_bool E.out.symm, HBE.out⟩
        · have E : Hid (R = false) := HR.out.trans (decide_eq_false (show ¬ ps = qs from fun e => hne (by rw [← HN.out, ← HM.out, e])))
          have hn2 : ((n : Int) != (m : Int)) = true := by simp; omega
          clear hne
          go_enter Tryz.func30, Tryz.ntmps30
          go_wp2_with fail
          go_ret
          exact ⟨ret_bool E.out.symm, HB2.out⟩
      · have e3 : (xc == yc) = false := by simpa using h3
        have e3' : (xc != yc) = true := by simpa using h3
        have E : Hid (R = false) := HNO.out (.inr (.inr (.inl h3)))
        clear h1 h2 h3
        go_enter Tryz.func30, Tryz.ntmps30
        go_wp2_with fail
        go_ret
        exact ⟨ret_bool E.out.symm, HB2.out⟩
    · have e2 : (xs == ys) = false := by simpa using h2
      have e2' : (xs != ys) = true := by simpa using h2
      have E : Hid (R = false) := HNO.out (.inr (.inl h2))
      clear h1 h2
      go_enter Tryz.func30, Tryz.ntmps30
      go_wp2_with fail
      go_ret
      exact ⟨ret_bool E.out.symm, HB2.out⟩
  · have e1 : (xu == yu) = false := by simpa using h1
    have e1' : (xu != yu) = true := by simpa using h1
    have E : Hid (R = false) := HNO.out (.inl h1)
    clear h1
    go_enter Tryz.func30, Tryz.ntmps30
    go_wp2_with fail
    go_ret
    exact ⟨ret_bool E.out.symm, HB2.out⟩
end Go.Proofs.YtiadnpipbocecaaGreat

/-
  Plans held against each other.
  Conditions: the slices read as places.
-/
set_option linter.unusedVariables false
set_option linter.unusedSimpArgs false
namespace Go.Proofs.YtiadnpipbocecaaGreat
open Go.RowKit

/-- Are two plans alike? -/
def sameB (f : Int) (m : Nat) (l : List Pl) (f' : Int) (m' : Nat) (l' : List Pl) : Bool := decide (f = f' ∧ m = m' ∧ l = l')
theorem sameB_no {f : Int} {m : Nat} {l : List Pl} {f' : Int} {m' : Nat} {l' : List Pl} (h : f ≠ f' ∨ m ≠ m' ∨ l ≠ l') : sameB f m l f' m' l' = false := decide_eq_false fun e => by
  rcases h with h | h | h
  · exact h e.1
  · exact h e.2.1
  · exact h e.2.2
theorem sameB_of {f : Int} {m : Nat} {l : List Pl} {f' : Int} {m' : Nat} {l' : List Pl} (h1 : f = f') (h2 : m = m') : sameB f m l f' m' l' = decide (l = l') := by
  by_cases h : l = l'
  · rw [decide_eq_true h]; exact decide_eq_true ⟨h1, h2, h⟩
  · rw [decide_eq_false h, sameB_no (.inr (.inr h))]

set_option maxRecDepth 100000 in
set_option maxHeartbeats 4000000 in
theorem refSame_any (f : Int) (m1 : Nat) (u : Value) (l : List Pl) (f' : Int) (m2 : Nat) (v : Value) (k2 : List Pl) (w : World) (hs : PlsAt w u l) (ht : PlsAt w v k2) :
    Calls Tryz.prog 11 #[planA f m1 u, planA f' m2 v] w (RetB (.bool (sameB f m1 l f' m2 k2)) w) := by
  have HA0 := Lib.hid hs
  have HB0 := Lib.hid ht
  obtain ⟨A, c, rfl, hc1, hc2⟩ := hs.form
  obtain ⟨B, d, rfl, hd1, hd2⟩ := ht.form
  have HNO := Lib.hid (@sameB_no f m1 l f' m2 k2)
  have HSA := Lib.hid (@sameB_of f m1 l f' m2 k2)
  obtain ⟨R, hR⟩ : ∃ R, sameB f m1 l f' m2 k2 = R := ⟨_, rfl⟩
  rw [hR] at HNO HSA ⊢
  obtain ⟨n, hn⟩ : ∃ n, l.length = n := ⟨_, rfl⟩
  obtain ⟨m, hm⟩ : ∃ m, k2.length = m := ⟨_, rfl⟩
  rw [hn] at HA0 hc1 ⊢
  rw [hm] at HB0 hd1 ⊢
  have HN := Lib.hid hn
  have HM := Lib.hid hm
  have hbn : n ≤ 9223372036854775807 := by omega
  obtain ⟨w1, P, hw1, hP, hPl, hb1, hbox⟩ := box_any w #[.int .i64 f, .int .u32 m1, .slice A n c] 25
  obtain ⟨w2, X, hw2, hX, hXl, hb2, hxbox⟩ := box_any w1 #[.int .i64 f', .int .u32 m2, .slice B m d] 25
  have HB2 := Lib.hid (hb1.trans (hb2.mono hb1.size))
  have HPB := Lib.hid (keep_block hbox hb2)
  have HXB := Lib.hid hxbox
  obtain ⟨p0, p1, p2⟩ := three_heads HPB.out
  obtain ⟨q0, q1, q2⟩ := three_heads hxbox
  have HA := Lib.hid (HA0.out.keep HB2.out)
  have HB := Lib.hid (HB0.out.keep HB2.out)
  have mixed : Tryz.prog.follows .mixedOrders = true := by kernel_rfl
  unfold planA
  clear hs ht hn hm hR hb1 hb2 hbox hxbox
  by_cases h1 : f = f'
  · have e1 : (f == f') = true := by simpa using h1
    have e1' : (f != f') = false := by simpa using h1
    by_cases h2 : m1 = m2
    · have e2 : ((m1 : Int) == (m2 : Int)) = true := by subst h2; simp
      have e2' : ((m1 : Int) != (m2 : Int)) = false := by subst h2; simp
      have HR := Lib.hid (HSA.out h1 h2)
      clear h1 h2
      by_cases hne : n = m
      · subst hne
        have hn2 : ((n : Int) != (n : Int)) = false := by simp
        go_enter Tryz.func11, Tryz.ntmps11
        go_wp2_with fail
        clear hw1 hP hw2 hX p0 p1 p2 q0 q1 q2
        go_loopg [5] n (fun g i wr => ∃ k : Nat, k ≤ n ∧ g = n - k ∧ i = .int .i64 k ∧ Hid (l.take k = k2.take k) ∧ Below w2.heap.size w2 wr)
        case atStart => exact ⟨0, Nat.zero_le _, by omega, rfl, rfl, Below.refl _ _⟩
        case round =>
          obtain ⟨k, hk, hg, rfl, HT, hbw⟩ := hrel
          have HG := Lib.hid hg
          have HBW := Lib.hid hbw
          have HBE := Lib.hid (HB2.out.trans (hbw.mono HB2.out.size))
          have HPW := Lib.hid (keep_block HPB.out hbw)
          have HXW := Lib.hid (keep_block HXB.out hbw)
          obtain ⟨p0, p1, p2⟩ := three_heads HPW.out
          obtain ⟨q0, q1, q2⟩ := three_heads HXW.out
          have lP := heap_lt HPW.out
          have lX := heap_lt HXW.out
          clear hg hbw
          by_cases hlt : k < n
          · have hltz : (k : Int) < (n : Int) := by omega
            have hk0 : (0 : Int) ≤ (k : Int) := by omega
            obtain ⟨x, hx⟩ := exP_at (xs := l) (k := k) (by rw [HN.out]; exact hlt)
            obtain ⟨y, hy⟩ := exP_at (xs := k2) (k := k) (by rw [HM.out]; exact hlt)
            obtain ⟨b, off, B1, d1, hAe, hbl, _, ⟨x0, x1, x2, x3⟩, hp1⟩ := (HA.out.keep HBW.out).at_ hx
            obtain ⟨b', off', B2, d2, hBe, hbl', _, ⟨y0, y1, y2, y3⟩, hp2⟩ := (HB.out.keep HBW.out).at_ hy
            subst hAe hBe
            simp only at x0 x1 x2 x3 y0 y1 y2 y3
            have HTN := Lib.hid (fun e => takeP_same HT hx hy e)
            have HDF := Lib.hid (fun e => differP hx hy e)
            have HP1 := Lib.hid hp1
            have HP2 := Lib.hid hp2
            clear hx hy hp1 hp2
            have lb := hbl
            have lb' := hbl'
            obtain ⟨xu, xs, xc, xp⟩ := x
            obtain ⟨yu, ys, yc, yp⟩ := y
            simp only at x0 x1 x2 x3 y0 y1 y2 y3 HP1 HP2
            have HCC := Lib.hid (fun W h h' => refSamePlace_any (.slice B1 xp.length d1) (.slice B2 yp.length d2) ⟨xu, xs, xc, xp⟩ ⟨yu, ys, yc, yp⟩ W h h')
            unfold plA at HCC
            simp only at HCC
            obtain ⟨n1, hn1⟩ : ∃ n1, xp.length = n1 := ⟨_, rfl⟩
            obtain ⟨n2, hn2⟩ : ∃ n2, yp.length = n2 := ⟨_, rfl⟩
            rw [hn1] at x3 HP1 HCC
            rw [hn2] at y3 HP2 HCC
            clear hn1 hn2
            by_cases hxy : (⟨xu, xs, xc, xp⟩ : Pl) = ⟨yu, ys, yc, yp⟩
            · rw [decide_eq_true hxy] at HCC
              have HNX := Lib.hid (HTN.out hxy)
              clear hxy
              go_wp2_with fail
              refine wp_region_held_drew (S := fun w' => w'.cell? ⟨P, 2, none⟩ = some (.slice (some ⟨b, off, none⟩) n c) ∧ w'.cell? ⟨X, 2, none⟩ = some ((.slice (some ⟨b', off', none⟩) n d)) ∧ w'.cell? ⟨b, off + k * 4, none⟩ = some (.int .i64 xu) ∧ w'.cell? ⟨b, off + k * 4 + 1, none⟩ = some (.int .i64 xs) ∧ w'.cell? ⟨b, off + k * 4 + 2, none⟩ = some (.int .i64 xc) ∧ w'.cell? ⟨b, off + k * 4 + 3, none⟩ = some (.slice B1 n1 d1) ∧ w'.cell? ⟨b', off' + k * 4, none⟩ = some (.int .i64 yu) ∧ w'.cell? ⟨b', off' + k * 4 + 1, none⟩ = some (.int .i64 ys) ∧ w'.cell? ⟨b', off' + k * 4 + 2, none⟩ = some (.int .i64 yc) ∧ w'.cell? ⟨b', off' + k * 4 + 3, none⟩ = some (.slice B2 n2 d2)) (by kernel_rfl) ?_ (fun hHeld => ?_)
              · exact ⟨p2, q2, x0, x1, x2, x3, y0, y1, y2, y3⟩
              refine wpAnyH_take (i := 0) (oi := ⟨some 34, _, _, _, _, _⟩) (v := ?_) rfl (by kernel_rfl) (by kernel_rfl) (by kernel_rfl) (fun _ _ _ h => h) (Or.inl ⟨by kernel_rfl, ?_⟩) (by assumption) ?_
              rotate_left
              · (intro w hSw; (try dsimp only at hSw); go_simp; try with_reducible rfl)
              (try simp only [Act.put, List.setIfInBounds_toArray, List.set_cons_zero, List.set_cons_succ])
              refine wpAnyH_take (i := 1) (oi := ⟨some 35, _, _, _, _, _⟩) (v := ?_) rfl (by kernel_rfl) (by kernel_rfl) (by kernel_rfl) (fun _ _ _ h => h) (Or.inl ⟨by kernel_rfl, ?_⟩) (by assumption) ?_
              rotate_left
              · (intro w hSw; (try dsimp only at hSw); go_simp; try with_reducible rfl)
              (try simp only [Act.put, List.setIfInBounds_toArray, List.set_cons_zero, List.set_cons_succ])
              refine wpAnyH_take (i := 2) (oi := ⟨some 36, _, _, _, _, _⟩) (v := ?_) rfl (by kernel_rfl) (by kernel_rfl) (by kernel_rfl) (fun _ _ _ h => h) (Or.inl ⟨by kernel_rfl, ?_⟩) (by assumption) ?_
              rotate_left
              · (intro w hSw; (try dsimp only at hSw); go_simp; try with_reducible rfl)
              (try simp only [Act.put, List.setIfInBounds_toArray, List.set_cons_zero, List.set_cons_succ])
              refine wpAnyH_take (i := 3) (oi := ⟨some 37, _, _, _, _, _⟩) (v := ?_) rfl (by kernel_rfl) (by kernel_rfl) (by kernel_rfl) (fun _ _ _ h => h) (Or.inl ⟨by kernel_rfl, ?_⟩) (by assumption) ?_
              rotate_left
              · (intro w hSw; (try dsimp only at hSw); go_simp; try with_reducible rfl)
              (try simp only [Act.put, List.setIfInBounds_toArray, List.set_cons_zero, List.set_cons_succ])
              refine wpAnyH_take (i := 4) (oi := ⟨some 38, _, _, _, _, _⟩) (v := ?_) rfl (by kernel_rfl) (by kernel_rfl) (by kernel_rfl) (fun _ _ _ h => h) (Or.inl ⟨by kernel_rfl, ?_⟩) (by assumption) ?_
              rotate_left
              · (intro w hSw; (try dsimp only at hSw); go_simp; try with_reducible rfl)
              (try simp only [Act.put, List.setIfInBounds_toArray, List.set_cons_zero, List.set_cons_succ])
              refine wpAnyH_take (i := 5) (oi := ⟨some 39, _, _, _, _, _⟩) (v := ?_) rfl (by kernel_rfl) (by kernel_rfl) (by kernel_rfl) (fun _ _ _ h => h) (Or.inl ⟨by kernel_rfl, ?_⟩) (by assumption) ?_
              rotate_left
              · (intro w hSw; (try dsimp only at hSw); go_simp; try with_reducible rfl)
              (try simp only [Act.put, List.setIfInBounds_toArray, List.set_cons_zero, List.set_cons_succ])
              refine wpAnyH_take (i := 6) (oi := ⟨some 40, _, _, _, _, _⟩) (v := ?_) rfl (by kernel_rfl) (by kernel_rfl) (by kernel_rfl) (fun _ _ _ h => h) (Or.inl ⟨by kernel_rfl, ?_⟩) (by assumption) ?_
              rotate_left
              · (intro w hSw; (try dsimp only at hSw); go_simp; try with_reducible rfl)
              (try simp only [Act.put, List.setIfInBounds_toArray, List.set_cons_zero, List.set_cons_succ])
              refine wpAnyH_take (i := 7) (oi := ⟨some 41, _, _, _, _, _⟩) (v := ?_) rfl (by kernel_rfl) (by kernel_rfl) (by kernel_rfl) (fun _ _ _ h => h) (Or.inl ⟨by kernel_rfl, ?_⟩) (by assumption) ?_
              rotate_left
              · (intro w hSw; (try dsimp only at hSw); go_simp; try with_reducible rfl)
              (try simp only [Act.put, List.setIfInBounds_toArray, List.set_cons_zero, List.set_cons_succ])
              refine wpAnyH_take (i := 8) (oi := ⟨some 42, _, _, _, _, _⟩) (v := ?_) rfl (by kernel_rfl) (by kernel_rfl) (by kernel_rfl) (fun _ _ _ h => h) (Or.inl ⟨by kernel_rfl, ?_⟩) (by assumption) ?_
              rotate_left
              · (intro w hSw; (try dsimp only at hSw); go_simp; try with_reducible rfl)
              (try simp only [Act.put, List.setIfInBounds_toArray, List.set_cons_zero, List.set_cons_succ])
              refine wpAnyH_take (i := 9) (oi := ⟨some 43, _, _, _, _, _⟩) (v := ?_) rfl (by kernel_rfl) (by kernel_rfl) (by kernel_rfl) (fun _ _ _ h => h) (Or.inl ⟨by kernel_rfl, ?_⟩) (by assumption) ?_
              rotate_left
              · (intro w hSw; (try dsimp only at hSw); go_simp; try with_reducible rfl)
              (try simp only [Act.put, List.setIfInBounds_toArray, List.set_cons_zero, List.set_cons_succ])
              refine wpAnyH_ready (rs := [10]) (by kernel_rfl) (by simp) ?_
              refine AllReadyH.cons (o := ⟨some 44, _, _, _, _, _⟩) rfl (fun K hK => ?_) AllReadyH.nil
              rw [if_pos (by kernel_rfl)]
              go_simp
              go_at_call 30; refine (HCC.out _ (HP1.out.keep ((Below.refl _ _).drew)) (HP2.out.keep ((Below.refl _ _).drew))).mono ?_; rintro e wq ⟨rfl, hbr⟩
              refine hK.out _ _ ?_ (fun hHeld => ?_)
              · exact ⟨(hbr.cell (p := ⟨P, 2, none⟩) lP).trans p2, (hbr.cell (p := ⟨X, 2, none⟩) lX).trans q2, (hbr.cell (p := ⟨b, off + k * 4, none⟩) lb).trans x0, (hbr.cell (p := ⟨b, off + k * 4 + 1, none⟩) lb).trans x1, (hbr.cell (p := ⟨b, off + k * 4 + 2, none⟩) lb).trans x2, (hbr.cell (p := ⟨b, off + k * 4 + 3, none⟩) lb).trans x3, (hbr.cell (p := ⟨b', off' + k * 4, none⟩) lb').trans y0, (hbr.cell (p := ⟨b', off' + k * 4 + 1, none⟩) lb').trans y1, (hbr.cell (p := ⟨b', off' + k * 4 + 2, none⟩) lb').trans y2, (hbr.cell (p := ⟨b', off' + k * 4 + 3, none⟩) lb').trans y3⟩
              clear hK K
              (try simp only [Act.put, List.setIfInBounds_toArray, List.set_cons_zero, List.set_cons_succ])
              refine wpAnyH_take (i := 11) (oi := ⟨some 45, _, _, _, _, _⟩) (v := ?_) rfl (by kernel_rfl) (by kernel_rfl) (by kernel_rfl) (fun _ _ _ h => h) (Or.inl ⟨by kernel_rfl, ?_⟩) (by assumption) ?_
              rotate_left
              · (intro w hSw; (try dsimp only at hSw); go_simp; try with_reducible rfl)
              (try simp only [Act.put, List.setIfInBounds_toArray, List.set_cons_zero, List.set_cons_succ])
              refine wpAnyH_done (by kernel_rfl) ?_ _
              have HB5 := Lib.hid (HBW.out.drew.trans (hbr.mono HBW.out.size))
              clear hbr
              go_wp2_with fail
              go_roundg (n - (k + 1))
              case measure => have := HG.out; omega
              case rel => exact ⟨k + 1, by omega, rfl, by go_num, HNX.out, HB5.out⟩
            · rw [decide_eq_false hxy] at HCC
              have E : Hid (R = false) := HR.out.trans (decide_eq_false (HDF.out hxy))
              clear hxy
              go_wp2_with fail
              refine wp_region_held_drew (S := fun w' => w'.cell? ⟨P, 2, none⟩ = some (.slice (some ⟨b, off, none⟩) n c) ∧ w'.cell? ⟨X, 2, none⟩ = some ((.slice (some ⟨b', off', none⟩) n d)) ∧ w'.cell? ⟨b, off + k * 4, none⟩ = some (.int .i64 xu) ∧ w'.cell? ⟨b, off + k * 4 + 1, none⟩ = some (.int .i64 xs) ∧ w'.cell? ⟨b, off + k * 4 + 2, none⟩ = some (.int .i64 xc) ∧ w'.cell? ⟨b, off + k * 4 + 3, none⟩ = some (.slice B1 n1 d1) ∧ w'.cell? ⟨b', off' + k * 4, none⟩ = some (.int .i64 yu) ∧ w'.cell? ⟨b', off' + k * 4 + 1, none⟩ = some (.int .i64 ys) ∧ w'.cell? ⟨b', off' + k * 4 + 2, none⟩ = some (.int .i64 yc) ∧ w'.cell? ⟨b', off' + k * 4 + 3, none⟩ = some (.slice B2 n2 d2)) (by kernel_rfl) ?_ (fun hHeld => ?_)
              · exact ⟨p2, q2, x0, x1, x2, x3, y0, y1, y2, y3⟩
              refine wpAnyH_take (i := 0) (oi := ⟨some 34, _, _, _, _, _⟩) (v := ?_) rfl (by kernel_rfl) (by kernel_rfl) (by kernel_rfl) (fun _ _ _ h => h) (Or.inl ⟨by kernel_rfl, ?_⟩) (by assumption) ?_
              rotate_left
              · (intro w hSw; (try dsimp only at hSw); go_simp; try with_reducible rfl)
              (try simp only [Act.put, List.setIfInBounds_toArray, List.set_cons_zero, List.set_cons_succ])
              refine wpAnyH_take (i := 1) (oi := ⟨some 35, _, _, _, _, _⟩) (v := ?_) rfl (by kernel_rfl) (by kernel_rfl) (by kernel_rfl) (fun _ _ _ h => h) (Or.inl ⟨by kernel_rfl, ?_⟩) (by assumption) ?_
              rotate_left
              · (intro w hSw; (try dsimp only at hSw); go_simp; try with_reducible rfl)
              (try simp only [Act.put, List.setIfInBounds_toArray, List.set_cons_zero, List.set_cons_succ])
              refine wpAnyH_take (i := 2) (oi := ⟨some 36, _, _, _, _, _⟩) (v := ?_) rfl (by kernel_rfl) (by kernel_rfl) (by kernel_rfl) (fun _ _ _ h => h) (Or.inl ⟨by kernel_rfl, ?_⟩) (by assumption) ?_
              rotate_left
              · (intro w hSw; (try dsimp only at hSw); go_simp; try with_reducible rfl)
              (try simp only [Act.put, List.setIfInBounds_toArray, List.set_cons_zero, List.set_cons_succ])
              refine wpAnyH_take (i := 3) (oi := ⟨some 37, _, _, _, _, _⟩) (v := ?_) rfl (by kernel_rfl) (by kernel_rfl) (by kernel_rfl) (fun _ _ _ h => h) (Or.inl ⟨by kernel_rfl, ?_⟩) (by assumption) ?_
              rotate_left
              · (intro w hSw; (try dsimp only at hSw); go_simp; try with_reducible rfl)
              (try simp only [Act.put, List.setIfInBounds_toArray, List.set_cons_zero, List.set_cons_succ])
              refine wpAnyH_take (i := 4) (oi := ⟨some 38, _, _, _, _, _⟩) (v := ?_) rfl (by kernel_rfl) (by kernel_rfl) (by kernel_rfl) (fun _ _ _ h => h) (Or.inl ⟨by kernel_rfl, ?_⟩) (by assumption) ?_
              rotate_left
              · (intro w hSw; (try dsimp only at hSw); go_simp; try with_reducible rfl)
              (try simp only [Act.put, List.setIfInBounds_toArray, List.set_cons_zero, List.set_cons_succ])
              refine wpAnyH_take (i := 5) (oi := ⟨some 39, _, _, _, _, _⟩) (v := ?_) rfl (by kernel_rfl) (by kernel_rfl) (by kernel_rfl) (fun _ _ _ h => h) (Or.inl ⟨by kernel_rfl, ?_⟩) (by assumption) ?_
              rotate_left
              · (intro w hSw; (try dsimp only at hSw); go_simp; try with_reducible rfl)
              (try simp only [Act.put, List.setIfInBounds_toArray, List.set_cons_zero, List.set_cons_succ])
              refine wpAnyH_take (i := 6) (oi := ⟨some 40, _, _, _, _, _⟩) (v := ?_) rfl (by kernel_rfl) (by kernel_rfl) (by kernel_rfl) (fun _ _ _ h => h) (Or.inl ⟨by kernel_rfl, ?_⟩) (by assumption) ?_
              rotate_left
              · (intro w hSw; (try dsimp only at hSw); go_simp; try with_reducible rfl)
              (try simp only [Act.put, List.setIfInBounds_toArray, List.set_cons_zero, List.set_cons_succ])
              refine wpAnyH_take (i := 7) (oi := ⟨some 41, _, _, _, _, _⟩) (v := ?_) rfl (by kernel_rfl) (by kernel_rfl) (by kernel_rfl) (fun _ _ _ h => h) (Or.inl ⟨by kernel_rfl, ?_⟩) (by assumption) ?_
              rotate_left
              · (intro w hSw; (try dsimp only at hSw); go_simp; try with_reducible rfl)
              (try simp only [Act.put, List.setIfInBounds_toArray, List.set_cons_zero, List.set_cons_succ])
              refine wpAnyH_take (i := 8) (oi := ⟨some 42, _, _, _, _, _⟩) (v := ?_) rfl (by kernel_rfl) (by kernel_rfl) (by kernel_rfl) (fun _ _ _ h => h) (Or.inl ⟨by kernel_rfl, ?_⟩) (by assumption) ?_
              rotate_left
              · (intro w hSw; (try dsimp only at hSw); go_simp; try with_reducible rfl)
              (try simp only [Act.put, List.setIfInBounds_toArray, List.set_cons_zero, List.set_cons_succ])
              refine wpAnyH_take (i := 9) (oi := ⟨some 43, _, _, _, _, _⟩) (v := ?_) rfl (by kernel_rfl) (by kernel_rfl) (by kernel_rfl) (fun _ _ _ h => h) (Or.inl ⟨by kernel_rfl, ?_⟩) (by assumption) ?_
              rotate_left
              · (intro w hSw; (try dsimp only at hSw); go_simp; try with_reducible rfl)
              (try simp only [Act.put, List.setIfInBounds_toArray, List.set_cons_zero, List.set_cons_succ])
              refine wpAnyH_ready (rs := [10]) (by kernel_rfl) (by simp) ?_
              refine AllReadyH.cons (o := ⟨some 44, _, _, _, _, _⟩) rfl (fun K hK => ?_) AllReadyH.nil
              rw [if_pos (by kernel_rfl)]
              go_simp
              go_at_call 30; refine (HCC.out _ (HP1.out.keep ((Below.refl _ _).drew)) (HP2.out.keep ((Below.refl _ _).drew))).mono ?_; rintro e wq ⟨rfl, hbr⟩
              refine hK.out _ _ ?_ (fun hHeld => ?_)
              · exact ⟨(hbr.cell (p := ⟨P, 2, none⟩) lP).trans p2, (hbr.cell (p := ⟨X, 2, none⟩) lX).trans q2, (hbr.cell (p := ⟨b, off + k * 4, none⟩) lb).trans x0, (hbr.cell (p := ⟨b, off + k * 4 + 1, none⟩) lb).trans x1, (hbr.cell (p := ⟨b, off + k * 4 + 2, none⟩) lb).trans x2, (hbr.cell (p := ⟨b, off + k * 4 + 3, none⟩) lb).trans x3, (hbr.cell (p := ⟨b', off' + k * 4, none⟩) lb').trans y0, (hbr.cell (p := ⟨b', off' + k * 4 + 1, none⟩) lb').trans y1, (hbr.cell (p := ⟨b', off' + k * 4 + 2, none⟩) lb').trans y2, (hbr.cell (p := ⟨b', off' + k * 4 + 3, none⟩) lb').trans y3⟩
              clear hK K
              (try simp only [Act.put, List.setIfInBounds_toArray, List.set_cons_zero, List.set_cons_succ])
              refine wpAnyH_take (i := 11) (oi := ⟨some 45, _, _, _, _, _⟩) (v := ?_) rfl (by kernel_rfl) (by kernel_rfl) (by kernel_rfl) (fun _ _ _ h => h) (Or.inl ⟨by kernel_rfl, ?_⟩) (by assumption) ?_
              rotate_left
              · (intro w hSw; (try dsimp only at hSw); go_simp; try with_reducible rfl)
              (try simp only [Act.put, List.setIfInBounds_toArray, List.set_cons_zero, List.set_cons_succ])
              refine wpAnyH_done (by kernel_rfl) ?_ _
              have HB5 := Lib.hid (HBE.out.drew.trans (hbr.mono HBE.out.size))
              clear hbr
              go_wp2_with fail
              go_ret
              exact ⟨ret_bool E.out.symm, HB5.out⟩
          · have hltz : ¬ (k : Int) < (n : Int) := by omega
            have E : Hid (R = true) := HR.out.trans (decide_eq_true (show l = k2 by
              have h : l.take k = k2.take k := HT
              rwa [List.take_of_length_le (by rw [HN.out]; omega), List.take_of_length_le (by rw [HM.out]; omega)] at h))
            go_wp2_with fail
            go_ret
            exact ⟨ret_bool E.out.symm, HBE.out⟩
      · have E : Hid (R = false) := HR.out.trans (decide_eq_false (show ¬ l = k2 from fun e => hne (by rw [← HN.out, ← HM.out, e])))
        have hn2 : ((n : Int) != (m : Int)) = true := by simp; omega
        clear hne
        go_enter Tryz.func11, Tryz.ntmps11
        go_wp2_with fail
        go_ret
        exact ⟨ret_bool E.out.symm, HB2.out⟩
    · have e2 : ((m1 : Int) == (m2 : Int)) = false := by simp; omega
      have e2' : ((m1 : Int) != (m2 : Int)) = true := by simp; omega
      have E : Hid (R = false) := HNO.out (.inr (.inl h2))
      clear h1 h2
      go_enter Tryz.func11, Tryz.ntmps11
      go_wp2_with fail
      go_ret
      exact ⟨ret_bool E.out.symm, HB2.out⟩
  · have e1 : (f == f') = false := by simpa using h1
    have e1' : (f != f') = true := by simpa using h1
    have E : Hid (R = false) := HNO.out (.inl h1)
    clear h1
    go_enter Tryz.func11, Tryz.ntmps11
    go_wp2_with fail
    go_ret
    exact ⟨ret_bool E.out.symm, HB2.out⟩
end Go.Proofs.YtiadnpipbocecaaGreat
