/-
  An argument that is a slice of wants, of whatever length; its first ones.
  Conditions: none.
-/
import Derived.Test.YtiadnpipbocecaaM13
import Derived.Test.YtiadnpipbocecaaM15
import Derived.Test.YtiadnpipbocecaaM21
import Derived.Test.YtiadnpipbocecaaM22
import Derived.Test.YtiadnpipbocecaaM02
import Derived.Test.YtiadnpipbocecaaM18
import Derived.Test.YtiadnpipbocecaaM01

/-
  When it is sure that nobody is left over, of the program.
  Conditions: the slice reads as wants; the numbers are ints.
-/
set_option linter.unusedVariables false
set_option linter.unusedSimpArgs false
namespace Go.Proofs.Ytiadnpipbocecaa
open Go.RowKit

/-- What wants are that are right: few, and small. -/
theorem chk_small {f : Int} {ws : List Sp} (h : chkT f ws = 0) : (2 ≤ f ∧ f ≤ 64) ∧ (∀ w ∈ ws, 1 ≤ w.2 ∧ w.2 ≤ 64) ∧ ∀ k, (0 ≤ sumS (ws.take k) ∧ sumS (ws.take k) ≤ 20000) ∧ 0 ≤ maxT (ws.take k) ∧ maxT (ws.take k) ≤ 64 := by
  obtain ⟨hf, hw⟩ := WOk.of_chk h
  have hall : ∀ w ∈ ws, 1 ≤ w.2 ∧ w.2 ≤ 64 := fun w hm => by
    have := hw.all w hm
    omega
  refine ⟨hf, hall, fun k => ⟨?_, maxT_nonneg _, maxT_bound (by decide) _ fun w hm => (hall w (List.mem_of_mem_take hm)).2⟩⟩
  have h1 := sumS_bound (ws.take k) fun w hm => by
    have := hall w (List.mem_of_mem_take hm)
    omega
  have h2 := few_wants h
  have h3 : (ws.take k).length ≤ 240 := by rw [List.length_take]; omega
  omega
theorem sure_yes {f c : Int} {ws : List Sp} (h : chkT f ws = 0) (hc : 1 ≤ c ∧ c ≤ 16) : sureT f c ws = decide (sumS ws + (c - 1) * maxT ws < c * f + c) := by
  unfold sureT
  rw [decide_eq_true h, decide_eq_true hc, Bool.true_and, Bool.true_and]
theorem sure_core {f c : Int} {ws : List Sp} (hc : ¬ (1 ≤ c ∧ c ≤ 16)) : sureT f c ws = false := by
  unfold sureT
  rw [decide_eq_false hc, Bool.false_and, Bool.and_false]
theorem sure_chk {f c : Int} {ws : List Sp} (h : chkT f ws ≠ 0) : sureT f c ws = false := by
  unfold sureT
  rw [decide_eq_false h, Bool.false_and]

set_option maxRecDepth 100000 in
set_option maxHeartbeats 4000000 in
theorem sure_any (f c : Int) (v : Value) (ws : List Sp) (w : World) (h : SpansAt w v ws) (hi : IntsS ws) :
    Calls Try.prog 13 #[.int .i64 f, .int .i64 c, v] w (RetB (.bool (sureT f c ws)) w) := by
  by_cases hc1 : c < 1
  · have HR : Hid (sureT f c ws = false) := Lib.hid (sure_core (by omega))
    obtain ⟨A, d, rfl, _⟩ := h
    go_enter Try.func13, Try.ntmps13
    go_wp2
    go_ret
    exact ⟨by rw [HR.out]; rfl, Below.refl _ _⟩
  · by_cases hc2 : 16 < c
    · have HR : Hid (sureT f c ws = false) := Lib.hid (sure_core (by omega))
      obtain ⟨A, d, rfl, _⟩ := h
      go_enter Try.func13, Try.ntmps13
      go_wp2
      go_ret
      exact ⟨by rw [HR.out]; rfl, Below.refl _ _⟩
    · have HCK := Lib.hid (check_any f v ws w h hi)
      obtain ⟨E, hE⟩ : ∃ E, chkT f ws = E := ⟨_, rfl⟩
      rw [hE] at HCK
      by_cases he : E = 0
      · subst he
        obtain ⟨hf, hall, hk⟩ := chk_small hE
        have HALL := Lib.hid hall
        have HK := Lib.hid hk
        have HSU := Lib.hid (sure_yes (c := c) hE (by omega))
        rw [HSU.out]
        obtain ⟨hf1, hf2⟩ := hf
        obtain ⟨cf, hcf⟩ : ∃ cf, c * f = cf := ⟨_, rfl⟩
        have hcfb : 0 ≤ cf ∧ cf ≤ 1024 := by
          rw [← hcf]
          refine ⟨Int.mul_nonneg (by omega) (by omega), ?_⟩
          have := Int.mul_le_mul (a := c) (b := f) (c := 16) (d := 64) (by omega) (by omega) (by omega) (by omega)
          omega
        rw [hcf]
        obtain ⟨hcf0, hcf1⟩ := hcfb
        have HS := Lib.hid h
        obtain ⟨A, d, rfl, hd1, hd3, hd2, hat⟩ := h
        have HAT := Lib.hid hat
        obtain ⟨n, hn⟩ : ∃ n, ws.length = n := ⟨_, rfl⟩
        rw [hn] at HS HAT hd1 hd3 HCK ⊢
        have HN := Lib.hid hn
        have HCF := Lib.hid hcf
        clear hat hn hall hk hE hi hcf
        go_enter Try.func13, Try.ntmps13
        go_wp2_with fail
        refine HCK.out.mono ?_
        rintro e w1 ⟨rfl, hb1⟩
        have HB1 := Lib.hid hb1
        clear hb1
        go_wp2_with fail
        go_loopg [7, 8, 10, 25] n (fun gg s7 s8 _ s25 wr => ∃ (k : Nat) (t g : Int), k ≤ n ∧ gg = n - k ∧ s25 = .int .i64 k ∧ s7 = .int .i64 t ∧ s8 = .int .i64 g ∧ Hid (t = sumS (ws.take k)) ∧ Hid (g = maxT (ws.take k)) ∧ Below w1.heap.size w1 wr)
        case atStart => exact ⟨0, 0, 0, Nat.zero_le _, by omega, rfl, rfl, rfl, rfl, rfl, Below.refl _ _⟩
        case round =>
          obtain ⟨k, t, g, hkn, hgg, rfl, rfl, rfl, HT, HM, hbw⟩ := hrel
          have HG := Lib.hid hgg
          have HBW := Lib.hid hbw
          have HB := Lib.hid (HB1.out.trans (hbw.mono HB1.out.size))
          obtain ⟨⟨hs0, hs1⟩, hm0, hm1⟩ := HK.out k
          rw [← HT.out] at hs0 hs1
          rw [← HM.out] at hm0 hm1
          by_cases hlt : k < n
          · have hltz : (k : Int) < (n : Int) := by omega
            have hk0 : (0 : Int) ≤ (k : Int) := by omega
            obtain ⟨y, hy⟩ := ex_at (xs := ws) (k := k) (by rw [HN.out]; exact hlt)
            obtain ⟨b, off, hA, hbl, hcell⟩ := HAT.out (by omega)
            subst hA
            obtain ⟨c1, c2⟩ := (hcell k y hy).keep HB.out hbl
            have hy1 := HALL.out y (List.mem_of_getElem? hy)
            have HTN : Hid (t + y.2 = sumS (ws.take (k + 1))) := Lib.hid (by rw [sumS_snoc hy, HT.out])
            have HMN : Hid (max g y.2 = maxT (ws.take (k + 1))) := Lib.hid (by rw [List.take_add_one, hy, Option.toList_some, maxT_snoc _ _ hy1.1, HM.out])
            obtain ⟨y1, y2⟩ := y
            simp only at c1 c2 hy1 HTN HMN
            obtain ⟨yl, yu⟩ := hy1
            obtain ⟨t2, ht2⟩ : ∃ t2, t + y2 = t2 := ⟨_, rfl⟩
            have hw2 : IntKind.i64.wrap t2 = t2 := IntWalk.i64_in _ (by omega)
            rw [ht2] at HTN
            obtain ⟨w2, N, hw2', hN, hNl, hb2, hnb⟩ := box_any wr #[.int .i64 y1, .int .i64 y2] 35
            obtain ⟨n0, n1⟩ := two_heads hnb
            have HB2 := Lib.hid (HBW.out.trans (hb2.mono HBW.out.size))
            clear hcell hy hb2 hnb hgg hbw hs0 hs1
            go_wp2_with fail
            go_roundg (n - (k + 1))
            case measure => have := HG.out; omega
            case rel => exact ⟨k + 1, t2, max g y2, by omega, rfl, by go_num, rfl, rfl, HTN, HMN, HB2.out⟩
          · have hltz : ¬ (k : Int) < (n : Int) := by omega
            have hTK : ws.take k = ws := List.take_of_length_le (by rw [HN.out]; omega)
            have HT' := Lib.hid HT.out
            have HM' := Lib.hid HM.out
            rw [hTK] at HT' HM'
            obtain ⟨cg, hcg⟩ : ∃ cg, (c - 1) * g = cg := ⟨_, rfl⟩
            have hcgb : 0 ≤ cg ∧ cg ≤ 1024 := by
              rw [← hcg]
              refine ⟨Int.mul_nonneg (by omega) (by omega), ?_⟩
              have := Int.mul_le_mul (a := c - 1) (b := g) (c := 16) (d := 64) (by omega) (by omega) (by omega) (by omega)
              omega
            obtain ⟨hcg0, hcg1⟩ := hcgb
            have hcf := HCF.out
            have HFIN : Hid (decide (t < cf + c - cg) = decide (sumS ws + (c - 1) * maxT ws < cf + c)) := Lib.hid (by
              rw [← HM'.out, ← HT'.out, hcg]
              by_cases h : t < cf + c - cg
              · rw [decide_eq_true h, decide_eq_true (by omega)]
              · rw [decide_eq_false h, decide_eq_false (by omega)])
            clear hTK hgg hbw HM' HT'
            go_wp2_with fail
            go_ret
            refine ⟨?_, HB.out⟩
            rw [← HFIN.out]
            rfl
      · have HR : Hid (sureT f c ws = false) := Lib.hid (sure_chk (by rw [hE]; exact he))
        have hb0 : (E != 0) = true := by simpa using he
        clear he hE
        obtain ⟨A, d, rfl, _⟩ := h
        go_enter Try.func13, Try.ntmps13
        go_wp2_with fail
        refine HCK.out.mono ?_
        rintro e w1 ⟨rfl, hb1⟩
        have HB1 := Lib.hid hb1
        clear hb1
        go_wp2_with fail
        go_ret
        exact ⟨by rw [HR.out]; rfl, HB1.out⟩
end Go.Proofs.Ytiadnpipbocecaa

/-
  Two slices that read alike.
  Conditions: the slices read as wants.
-/
set_option linter.unusedVariables false
namespace Go.Proofs.Ytiadnpipbocecaa
open Go.RowKit

set_option maxRecDepth 100000 in
set_option maxHeartbeats 2000000 in
theorem same_any (x y : Value) (ps : List Sp) (w : World) (hx : SpansAt w x ps) (hy : SpansAt w y ps) : Calls Try.prog 15 #[x, y] w (RetB (.bool true) w) := by
  obtain ⟨A1, k1, rfl, a1, a2, a3, a4⟩ := hx
  obtain ⟨A2, k2, rfl, b1, b2, b3, b4⟩ := hy
  have HX := Lib.hid a4
  have HY := Lib.hid b4
  generalize hn : ps.length = n at *
  have HN := Lib.hid hn
  have hnn : ((n : Int) != (n : Int)) = false := by simp
  clear a4 b4 hn
  go_enter Try.func15, Try.ntmps15
  go_wp2_with fail
  go_loopg [5] n (fun g s wr => ∃ i : Nat, i ≤ n ∧ g = n - i ∧ s = .int .i64 i ∧ Below w.heap.size w wr)
  case atStart => exact ⟨0, Nat.zero_le _, by omega, rfl, Below.refl _ _⟩
  case round =>
    obtain ⟨i, hin, hgg, rfl, hbw⟩ := hrel
    have HG := Lib.hid hgg
    have HB := Lib.hid hbw
    clear hgg hbw
    by_cases hlt : i < n
    · obtain ⟨bx, ox, hA1, hl1, hc1⟩ := HX.out (by omega)
      obtain ⟨by_, oy, hA2, hl2, hc2⟩ := HY.out (by omega)
      subst hA1 hA2
      obtain ⟨z, hz⟩ := ex_at (xs := ps) (k := i) (by rw [HN.out]; exact hlt)
      obtain ⟨c1, c2⟩ := (hc1 i z hz).keep HB.out hl1
      obtain ⟨d1, d2⟩ := (hc2 i z hz).keep HB.out hl2
      obtain ⟨z1, z2⟩ := z
      simp only at c1 c2 d1 d2
      have e1 : (z1 != z1) = false := by simp
      have e2 : (z2 != z2) = false := by simp
      have hltz : (i : Int) < (n : Int) := by omega
      clear hc1 hc2 hz
      go_wp2_with fail
      go_quiet (fail)
      go_wp2_with fail
      go_roundg (n - (i + 1))
      case measure => have := HG.out; omega
      case rel => exact ⟨i + 1, by omega, rfl, by go_num, below_drewN HB.out _⟩
    · have hltz : ¬ (i : Int) < (n : Int) := by omega
      go_wp2
      go_ret
      exact ⟨rfl, HB.out⟩
end Go.Proofs.Ytiadnpipbocecaa

/-
  The page's example comes out.
  Conditions: none.
-/
set_option linter.unusedVariables false
set_option linter.unusedSimpArgs false
namespace Go.Proofs.Ytiadnpipbocecaa
open Go.RowKit

theorem lit_spans (W : World) (ps : List Sp) (t : Nat) (hl : ps.length ≤ 100000) : SpansAt (W.alloc (.cells (spansCells ps).toArray t)) (.slice (some ⟨W.heap.size, 0, none⟩) ps.length ps.length) ps := by
  refine spans_of_own (base := 0) (e := t) ?_ (by omega)
  have := World.ownsRow_lit (base := 0) (e := t) (size := 2) W (spansCells ps).toArray ps.length (Nat.zero_le _) (by unfold maxLen; omega) (by simp [spansCells_length])
  simpa using this
def exW : List Sp := [(1, 3), (2, 3), (3, 2)]
def exF : List Pl := [⟨1, 3, 0, []⟩, ⟨2, 3, 1, []⟩]
theorem ex_fit : fitT 4 3 [] (sortT exW) = (exF, [(3, 2)]) := by decide +kernel
theorem right_nil {f : Int} {m : Nat} (hf : 2 ≤ f) (hf2 : f ≤ 64) (h0 : 0 < coresN m) (hm : m < 65536) : Right f m [] := by
  refine ⟨hf, hf2, fun e => ?_, hm, fun x hx => (by cases hx), fun i x y hx => (by simp at hx), fun c _ t _ => Nat.zero_le _, h0, fun c _ _ => ?_⟩
  · subst e
    have e0 : ∀ k : Nat, cntT 0 k = 0 := fun k => by
      induction k with
      | zero => rfl
      | succ k ih => rw [cntT_succ, ih, Nat.zero_testBit]; rfl
    unfold coresN at h0
    rw [e0] at h0
    omega
  · have : loadN [] (c : Int) = 0 := by
      unfold loadN
      rw [show pcsOf [] = [] from rfl, winN_nil]
      rfl
    omega
theorem ex_goes : Goes 4 3 [] exW := ⟨right_nil (by decide) (by decide) (by decide) (by decide), by decide, by decide⟩
theorem ex_ints : IntsS exW := by
  intro s hs
  simp [exW] at hs
  rcases hs with rfl | rfl | rfl <;> exact ⟨by decide, by decide⟩
theorem light_nil : LightL [] := ⟨by decide, fun x hx => by cases hx⟩
theorem ex_sure : sureT 4 2 [(1, 3)] = true := by decide
theorem ex_unsure : sureT 4 0 [] = false := by decide
theorem ex_found : findU exF 2 = some ⟨2, 3, 1, []⟩ := by decide

set_option maxRecDepth 100000 in
set_option maxHeartbeats 4000000 in
theorem awake_any (w : World) : Calls Try.prog 6 #[] w (RetB (.bool true) w) := by
  have HA : Hid (SpansAt (w.alloc (.cells #[.int .i64 1, .int .i64 3, .int .i64 2, .int .i64 3, .int .i64 3, .int .i64 2] 35)) (.slice (some ⟨w.heap.size, 0, none⟩) 3 3) exW) := lit_spans w exW 35 (by decide)
  obtain ⟨w0, L, hw0, hL, hLl, hb0, hlb⟩ := box_any w #[.int .i64 1, .int .i64 3, .int .i64 2, .int .i64 3, .int .i64 3, .int .i64 2] 35
  rw [hw0, hL] at HA
  have HB0 := Lib.hid hb0
  have HFT := Lib.hid (fit_any 4 3 (.slice none 0 0) [] (.slice (some ⟨L, 0, none⟩) 3 3) exW w0 (PlsIn.nil _ _) light_nil HA.out ex_ints (by decide) (by decide))
  unfold planA at HFT
  clear hb0 hlb HA
  go_enter Try.func6, Try.ntmps6
  go_wp2_with fail
  refine HFT.out.mono ?_
  rintro e w1 ⟨E, hwhy, hb1, hcase⟩
  have hE : E = 0 := hwhy.unique ex_goes.why
  obtain ⟨_, v, vo, rfl, hpl, hov⟩ := hcase.resolve_right fun h => h.1 hE
  rw [ex_fit] at hpl hov
  have HB1 := Lib.hid (HB0.out.trans (hb1.mono HB0.out.size))
  obtain ⟨A, d, rfl, _, _⟩ := hpl.form
  have hlen : exF.length = 2 := rfl
  rw [hlen] at hpl ⊢
  obtain ⟨w2, Q, hw2, hQ, hQl, hb2, hqb⟩ := box_any w1 #[.int .i64 0, .int .u32 0, .slice none 0 0] 25
  have HQB := Lib.hid hqb
  obtain ⟨w3, hw3⟩ : ∃ w3, w2.setRow Q #[.int .i64 4, .int .u32 3, .slice A 2 d] = w3 := ⟨_, rfl⟩
  have hb3 : Below w1.heap.size w1 w3 := by rw [← hw3]; exact below_row hb2 (by omega) _
  have HB3 := Lib.hid (HB1.out.trans (hb3.mono HB1.out.size))
  have HQ3 : Hid (w3.heap[Q]? = some (.cells #[.int .i64 4, .int .u32 3, .slice A 2 d] 25 (0, 0))) := Lib.hid (by rw [← hw3]; exact setRow_heap _ _ _ _ _ _ hqb)
  have HP3 := Lib.hid (hpl.any.keep hb3)
  have HO3 := Lib.hid (hov.keep hb3)
  have HFI := Lib.hid (refFind_any 4 3 (.slice A 2 d) exF 2 w3 HP3.out (by decide))
  rw [ex_found] at HFI
  unfold RetFind planA plA at HFI
  obtain ⟨q0, q1, q2⟩ := three_heads HQ3.out
  clear hb1 hb2 hb3 hpl hov hqb hwhy hE
  go_wp2_with (refine wpList_store_row rfl _ _ _ rfl Q #[.int .i64 4, .int .u32 3, .slice A 2 d] rfl rfl 25 _ HQB.out (Try.sizePn _ _ _) rfl (one3 _ _ _ _ _) ?_)
  refine HFI.out.mono ?_
  rintro e w4 ⟨vx, rfl, hx, hb4⟩
  have HB4 := Lib.hid (HB3.out.trans (hb4.mono HB3.out.size))
  obtain ⟨Ax, dx, rfl⟩ := hx.form
  obtain ⟨w5, X, hw5, hX, hXl, hb5, hxb⟩ := box_any w4 #[.int .i64 2, .int .i64 3, .int .i64 1, .slice Ax 0 dx] 38
  have HB5 := Lib.hid (HB4.out.trans (hb5.mono HB4.out.size))
  have HX5 := Lib.hid hxb
  have HQ5 := Lib.hid (keep_block (keep_block HQ3.out hb4) hb5)
  have HO5 := Lib.hid ((HO3.out.keep hb4).keep hb5)
  obtain ⟨w6, S6, hw6, hS6, hSl6, hb6, hsb6⟩ := box_any w5 #[.int .i64 3, .int .i64 2] 35
  have HB6 := Lib.hid (HB5.out.trans (hb6.mono HB5.out.size))
  have HSM := Lib.hid (same_any vo (.slice (some ⟨S6, 0, none⟩) 1 1) [(3, 2)] w6 (HO5.out.keep hb6) (by
    have := lit_spans w5 [(3, 2)] 35 (by decide)
    rw [hS6] at this
    rw [← hw6]
    exact this))
  have HX6 := Lib.hid (keep_block HX5.out hb6)
  have HQ6 := Lib.hid (keep_block HQ5.out hb6)
  have hlx : (Option.getD (some (⟨2, 3, 1, []⟩ : Pl)) zeroPl).ps.length = 0 := rfl
  clear hb4 hb5 hb6 hxb hsb6 hx q0 q1 q2 hw3 hw2 hQ hw0 hL
  simp only [hlx, Option.getD, Option.isSome]
  go_wp2_with fail
  refine HSM.out.mono ?_
  rintro e w7 ⟨rfl, hb7⟩
  have HB7 := Lib.hid (HB6.out.trans (hb7.mono HB6.out.size))
  have HX7 := Lib.hid (keep_block HX6.out hb7)
  have HQ7 := Lib.hid (keep_block HQ6.out hb7)
  obtain ⟨x0, x1, x2, x3⟩ := four_heads HX7.out
  obtain ⟨q0, q1, q2⟩ := three_heads HQ7.out
  obtain ⟨w8, S8, hw8, hS8, hSl8, hb8, hsb8⟩ := box_any w7 #[.int .i64 1, .int .i64 3] 35
  have HB8 := Lib.hid (HB7.out.trans (hb8.mono HB7.out.size))
  have HSU := Lib.hid (sure_any 4 2 (.slice (some ⟨S8, 0, none⟩) 1 1) [(1, 3)] w8 (by
    have := lit_spans w7 [(1, 3)] 35 (by decide)
    rw [hS8] at this
    rw [← hw8]
    exact this) (by intro s hs; simp at hs; subst hs; exact ⟨by decide, by decide⟩))
  rw [ex_sure] at HSU
  clear hb7 hb8 hsb8 hw5 hX hw6 hS6
  go_wp2_with fail
  refine HSU.out.mono ?_
  rintro e w9 ⟨rfl, hb9⟩
  have HB9 := Lib.hid (HB8.out.trans (hb9.mono HB8.out.size))
  have HSN := Lib.hid (sure_any 4 0 (.slice none 0 0) [] w9 (SpansAt.nil _) (fun s hs => by cases hs))
  rw [ex_unsure] at HSN
  clear hb9 hw8 hS8 x0 x1 x2 x3 q0 q1 q2
  go_wp2_with fail
  refine HSN.out.mono ?_
  rintro e w10 ⟨rfl, hb10⟩
  have HB10 := Lib.hid (HB9.out.trans (hb10.mono HB9.out.size))
  clear hb10
  go_wp2_with fail
  go_ret
  exact ⟨rfl, HB10.out⟩
end Go.Proofs.Ytiadnpipbocecaa

/-
  A sum of the document's.
  Conditions: the numbers are ints.
-/
set_option linter.unusedVariables false
namespace Go.Proofs.Ytiadnpipbocecaa
open Go.RowKit

/-- A sum as the program tells it, and as the document tells it. -/
def sumV (o : Option Int) : Int := o.getD 0
def sumE (o : Option Int) : Int := if o.isSome then 0 else 5
def sumB (o : Option Int) : Bool := o.isSome
theorem refAdd_any (a b : Int) (a1 : -9223372036854775808 ≤ a) (a2 : a ≤ 9223372036854775807) (b1 : -9223372036854775808 ≤ b) (b2 : b ≤ 9223372036854775807) (w : World) :
    Calls Try.prog 50 #[.int .i64 a, .int .i64 b] w (Ret (.tuple #[.int .i64 (sumV (addO a b)), .bool (sumB (addO a b))]) w) := by
  by_cases h : -9223372036854775808 ≤ a + b ∧ a + b ≤ 9223372036854775807
  · rw [show addO a b = some (a + b) from if_pos h]
    obtain ⟨h1, h2⟩ := h
    show Calls _ _ _ _ (Ret (.tuple #[.int .i64 (a + b), .bool true]) w)
    go_enter Try.func50, Try.ntmps50
    go_wp2
    all_goals go_returns
    all_goals exact ⟨rfl, rfl⟩
  · rw [show addO a b = none from if_neg h]
    show Calls _ _ _ _ (Ret (.tuple #[.int .i64 0, .bool false]) w)
    have h' : 9223372036854775807 < a + b ∨ a + b < -9223372036854775808 := by omega
    clear h
    rcases h' with h | h
    · go_enter Try.func50, Try.ntmps50
      go_wp2
      all_goals go_returns
      all_goals exact ⟨rfl, rfl⟩
    · go_enter Try.func50, Try.ntmps50
      go_wp2
      all_goals go_returns
      all_goals exact ⟨rfl, rfl⟩
theorem addO_in {a b t : Int} (h : addO a b = some t) : -9223372036854775808 ≤ t ∧ t ≤ 9223372036854775807 := by
  unfold addO at h
  split at h
  · cases h; assumption
  · cases h
end Go.Proofs.Ytiadnpipbocecaa

/-
  Total of the program and of the document; two slices that read alike.
  Conditions: the slices read as wants of ints.
-/
set_option linter.unusedVariables false
namespace Go.Proofs.Ytiadnpipbocecaa
open Go.RowKit

def TotRel (n : Nat) (ps : List Sp) (R : Option Int) (w : World) (gg : Nat) (s4 s11 : Value) (wr : World) : Prop :=
  ∃ (i : Nat) (t : Int), i ≤ n ∧ gg = n - i ∧ s11 = .int .i64 i ∧ s4 = .int .i64 t ∧ Below w.heap.size w wr ∧ totL t (ps.drop i) = R ∧ -9223372036854775808 ≤ t ∧ t ≤ 9223372036854775807

set_option maxRecDepth 100000 in
set_option maxHeartbeats 2000000 in
theorem refTotal_any (v : Value) (ps : List Sp) (w : World) (h : SpansAt w v ps) (hi : IntsS ps) :
    Calls Try.prog 30 #[v] w (RetB (.tuple #[.int .i64 (sumV (totT ps)), .bool (sumB (totT ps))]) w) := by
  obtain ⟨A, c, rfl, hc1, hlen, hc2, hat⟩ := h
  have HAT := Lib.hid hat
  have HI := Lib.hid hi
  obtain ⟨R, hR⟩ : ∃ R, totT ps = R := ⟨_, rfl⟩
  have HR := Lib.hid hR
  rw [hR]
  generalize hn : ps.length = n at *
  have HN := Lib.hid hn
  clear hat hn hR hi
  go_enter Try.func30, Try.ntmps30
  go_wp2_with fail
  go_loopg [4, 5, 6, 7] n (fun gg s4 s5 _ _ wr => TotRel n ps R w gg s4 s5 wr)
  case atStart => exact ⟨0, 0, Nat.zero_le _, by omega, rfl, rfl, Below.refl _ _, HR.out, by decide, by decide⟩
  case round =>
    obtain ⟨i, t, hin, hgg, rfl, rfl, hbw, htot, ht1, ht2⟩ := hrel
    have HG := Lib.hid hgg
    have HB := Lib.hid hbw
    have HT := Lib.hid htot
    have hsz := hbw.size
    clear hgg hbw htot
    by_cases hlt : i < n
    · have hltz : (i : Int) < (n : Int) := by omega
      obtain ⟨b, off, hA, hbl, hcell⟩ := HAT.out (by omega)
      subst hA
      obtain ⟨y, hy⟩ := ex_at (xs := ps) (k := i) (by rw [HN.out]; exact hlt)
      obtain ⟨c1, c2⟩ := (hcell i y hy).keep HB.out hbl
      obtain ⟨_, b1, b2⟩ := HI.out.at_ hy
      have HY := Lib.hid (drop_of hy)
      have hadd := fun W => refAdd_any t y.2 ht1 ht2 b1 b2 W
      cases ho : addO t y.2 with
      | none =>
        rw [ho] at hadd
        have HADD : Hid (∀ W, Calls Try.prog 50 #[.int .i64 t, .int .i64 y.2] W (Ret (.tuple #[.int .i64 0, .bool false]) W)) := hadd
        have HRN : Hid (R = none) := by
          have := HT.out
          rw [HY.out, totL_none ho] at this
          exact this.symm
        obtain ⟨y1, y2⟩ := y
        simp only at c1 c2 HADD
        clear hcell hy hadd ho b1 b2 ht1 ht2
        go_wp2_with (go_at_call 50; refine (HADD.out _).mono ?_; rintro e w' ⟨rfl, rfl⟩)
        go_returns
        exact ⟨by rw [HRN.out]; rfl, HB.out⟩
      | some t' =>
        rw [ho] at hadd
        have HADD : Hid (∀ W, Calls Try.prog 50 #[.int .i64 t, .int .i64 y.2] W (Ret (.tuple #[.int .i64 t', .bool true]) W)) := hadd
        have HRN : Hid (totL t' (ps.drop (i + 1)) = R) := by
          have := HT.out
          rw [HY.out, totL_some ho] at this
          exact this
        have HTI := Lib.hid (addO_in ho)
        obtain ⟨y1, y2⟩ := y
        simp only at c1 c2 HADD
        clear hcell hy hadd ho b1 b2 ht1 ht2
        go_wp2_with (go_at_call 50; refine (HADD.out _).mono ?_; rintro e w' ⟨rfl, rfl⟩)
        go_roundg (n - (i + 1))
        case measure => have := HG.out; omega
        case rel => exact ⟨i + 1, t', by omega, rfl, by go_num, rfl, HB.out, HRN.out, HTI.out.1, HTI.out.2⟩
    · have hin' : i = n := by omega
      subst hin'
      have hltz : ¬ (i : Int) < (i : Int) := by omega
      have HRN : Hid (R = some t) := by
        have := HT.out
        rw [List.drop_eq_nil_of_le (by rw [HN.out]; exact Nat.le_refl _)] at this
        exact this.symm
      clear ht1 ht2
      go_wp2
      go_returns
      exact ⟨by rw [HRN.out]; rfl, HB.out⟩
end Go.Proofs.Ytiadnpipbocecaa

/-
  When it is sure that nobody is left over, of the document.
  Conditions: the slice reads as wants; the numbers are ints.
-/
set_option linter.unusedVariables false
set_option linter.unusedSimpArgs false
namespace Go.Proofs.Ytiadnpipbocecaa
open Go.RowKit

theorem tot_small : ∀ (ws : List Sp) (t : Int), (∀ w ∈ ws, 0 ≤ w.2 ∧ w.2 ≤ 64) → 0 ≤ t → t + 64 * (ws.length : Int) ≤ 1000000 → totL t ws = some (t + sumS ws)
  | [], t, _, _, _ => by rw [totL, sumS, Int.add_zero]
  | y :: r, t, h, h0, h1 => by
    have hy := h y (by simp)
    rw [List.length_cons] at h1
    have ha : addO t y.2 = some (t + y.2) := if_pos (by omega)
    rw [totL_some ha, tot_small r (t + y.2) (fun w hw => h w (by simp [hw])) (by omega) (by omega), sumS, Int.add_assoc]
theorem tot_chk {f : Int} {ws : List Sp} (h : chkT f ws = 0) : totT ws = some (sumS ws) := by
  obtain ⟨_, hall, _⟩ := chk_small h
  have h2 := few_wants h
  have := tot_small ws 0 (fun w hw => by have := hall w hw; omega) (by omega) (by omega)
  rwa [Int.zero_add] at this

set_option maxRecDepth 100000 in
set_option maxHeartbeats 4000000 in
theorem refSure_any (f c : Int) (v : Value) (ws : List Sp) (w : World) (h : SpansAt w v ws) (hi : IntsS ws) :
    Calls Try.prog 14 #[.int .i64 f, .int .i64 c, v] w (RetB (.bool (sureT f c ws)) w) := by
  have HCK := Lib.hid (refCheck_any f v ws w h hi)
  obtain ⟨E, hE⟩ : ∃ E, chkT f ws = E := ⟨_, rfl⟩
  rw [hE] at HCK
  by_cases he : E = 0
  · subst he
    by_cases hc1 : c < 1
    · have HR : Hid (sureT f c ws = false) := Lib.hid (sure_core (by omega))
      obtain ⟨A, d, rfl, _⟩ := h
      clear hE hi
      go_enter Try.func14, Try.ntmps14
      go_wp2_with fail
      refine HCK.out.mono ?_
      rintro e w1 ⟨rfl, hb1⟩
      have HB1 := Lib.hid hb1
      clear hb1
      go_wp2_with fail
      go_ret
      exact ⟨by rw [HR.out]; rfl, HB1.out⟩
    · by_cases hc2 : 16 < c
      · have HR : Hid (sureT f c ws = false) := Lib.hid (sure_core (by omega))
        obtain ⟨A, d, rfl, _⟩ := h
        clear hE hi
        go_enter Try.func14, Try.ntmps14
        go_wp2_with fail
        refine HCK.out.mono ?_
        rintro e w1 ⟨rfl, hb1⟩
        have HB1 := Lib.hid hb1
        clear hb1
        go_wp2_with fail
        go_ret
        exact ⟨by rw [HR.out]; rfl, HB1.out⟩
      · have HTO := Lib.hid (fun w h => refTotal_any v ws w h hi)
        rw [tot_chk hE] at HTO
        obtain ⟨hf, hall, hk⟩ := chk_small hE
        have HALL := Lib.hid hall
        have HK := Lib.hid hk
        have HSU := Lib.hid (sure_yes (c := c) hE (by omega))
        rw [HSU.out]
        obtain ⟨hf1, hf2⟩ := hf
        obtain ⟨cf, hcf⟩ : ∃ cf, c * f = cf := ⟨_, rfl⟩
        have hcfb : 0 ≤ cf ∧ cf ≤ 1024 := by
          rw [← hcf]
          refine ⟨Int.mul_nonneg (by omega) (by omega), ?_⟩
          have := Int.mul_le_mul (a := c) (b := f) (c := 16) (d := 64) (by omega) (by omega) (by omega) (by omega)
          omega
        rw [hcf]
        obtain ⟨hcf0, hcf1⟩ := hcfb
        have HS := Lib.hid h
        obtain ⟨A, d, rfl, hd1, hd3, hd2, hat⟩ := h
        have HAT := Lib.hid hat
        obtain ⟨T, hT⟩ : ∃ T, sumS ws = T := ⟨_, rfl⟩
        have htb := (hk ws.length).1
        rw [List.take_of_length_le (Nat.le_refl _), hT] at htb
        obtain ⟨ht0, ht1⟩ := htb
        rw [hT] at HTO ⊢
        have hsv : sumV (some T) = T := rfl
        have hsb : sumB (some T) = true := rfl
        rw [hsv, hsb] at HTO
        have HTT := Lib.hid hT
        obtain ⟨n, hn⟩ : ∃ n, ws.length = n := ⟨_, rfl⟩
        rw [hn] at HS HAT hd1 hd3 HCK HTO ⊢
        have HN := Lib.hid hn
        have HCF := Lib.hid hcf
        clear hat hn hall hk hE hi hcf hT hsv hsb
        go_enter Try.func14, Try.ntmps14
        go_wp2_with fail
        refine HCK.out.mono ?_
        rintro e w1 ⟨rfl, hb1⟩
        have HB1 := Lib.hid hb1
        clear hb1
        go_wp2_with fail
        refine (HTO.out _ (HS.out.keep HB1.out)).mono ?_
        rintro e w2 ⟨rfl, hb2⟩
        have HB2 := Lib.hid (HB1.out.trans (hb2.mono HB1.out.size))
        clear hb2
        go_wp2_with fail
        go_loopg [9, 10] n (fun gg s9 s10 wr => ∃ (k : Nat) (g : Int), k ≤ n ∧ gg = n - k ∧ s10 = .int .i64 k ∧ s9 = .int .i64 g ∧ Hid (g = maxT (ws.take k)) ∧ w2 = wr)
        case atStart => exact ⟨0, 0, Nat.zero_le _, by omega, rfl, rfl, rfl, rfl⟩
        case round =>
          obtain ⟨k, g, hkn, hgg, rfl, rfl, HM, rfl⟩ := hrel
          have HG := Lib.hid hgg
          obtain ⟨_, hm0, hm1⟩ := HK.out k
          rw [← HM.out] at hm0 hm1
          by_cases hlt : k < n
          · have hltz : (k : Int) < (n : Int) := by omega
            have hk0 : (0 : Int) ≤ (k : Int) := by omega
            obtain ⟨y, hy⟩ := ex_at (xs := ws) (k := k) (by rw [HN.out]; exact hlt)
            obtain ⟨b, off, hA, hbl, hcell⟩ := HAT.out (by omega)
            subst hA
            obtain ⟨c1, c2⟩ := (hcell k y hy).keep HB2.out hbl
            have hy1 := HALL.out y (List.mem_of_getElem? hy)
            have HMN : Hid (max g y.2 = maxT (ws.take (k + 1))) := Lib.hid (by rw [List.take_add_one, hy, Option.toList_some, maxT_snoc _ _ hy1.1, HM.out])
            obtain ⟨y1, y2⟩ := y
            simp only at c1 c2 hy1 HMN
            obtain ⟨yl, yu⟩ := hy1
            clear hcell hy hgg
            by_cases hmx : g < y2
            · have HME : Hid (y2 = maxT (ws.take (k + 1))) := Lib.hid (by rw [← HMN.out]; omega)
              go_wp2_with fail
              go_roundg (n - (k + 1))
              case measure => have := HG.out; omega
              case rel => exact ⟨k + 1, y2, by omega, rfl, by go_num, rfl, HME, rfl⟩
            · have HME : Hid (g = maxT (ws.take (k + 1))) := Lib.hid (by rw [← HMN.out]; omega)
              have hmxd : decide (g < y2) = false := decide_eq_false hmx
              go_wp2_with fail
              go_roundg (n - (k + 1))
              case measure => have := HG.out; omega
              case rel => exact ⟨k + 1, g, by omega, rfl, by go_num, rfl, HME, rfl⟩
          · have hltz : ¬ (k : Int) < (n : Int) := by omega
            have hTK : ws.take k = ws := List.take_of_length_le (by rw [HN.out]; omega)
            have HM' := Lib.hid HM.out
            rw [hTK] at HM'
            obtain ⟨cg, hcg⟩ : ∃ cg, (c - 1) * g = cg := ⟨_, rfl⟩
            have hcgb : 0 ≤ cg ∧ cg ≤ 1024 := by
              rw [← hcg]
              refine ⟨Int.mul_nonneg (by omega) (by omega), ?_⟩
              have := Int.mul_le_mul (a := c - 1) (b := g) (c := 16) (d := 64) (by omega) (by omega) (by omega) (by omega)
              omega
            obtain ⟨hcg0, hcg1⟩ := hcgb
            have HFIN : Hid (decide (T + cg < cf + c) = decide (T + (c - 1) * maxT ws < cf + c)) := Lib.hid (by rw [← HM'.out, hcg])
            have hcf := HCF.out
            by_cases hn0 : n = 0
            · have HE : Hid (decide (T + cg < cf + c) = true) := Lib.hid (by
                have hws : ws = [] := List.eq_nil_of_length_eq_zero (by rw [HN.out]; exact hn0)
                have h1 := HTT.out
                have h2 := HM'.out
                rw [hws] at h1 h2
                have h3 : sumS [] = 0 := rfl
                have h4 : maxT [] = 0 := rfl
                rw [h2, h4, Int.mul_zero] at hcg
                rw [decide_eq_true_iff]
                omega)
              subst hn0
              clear hTK hgg HM'
              go_wp2_with fail
              go_ret
              refine ⟨?_, HB2.out⟩
              rw [← HFIN.out, HE.out]
              rfl
            · have hn1 : ((n : Int) == 0) = false := by simp; omega
              clear hTK hgg HM'
              go_wp2_with fail
              go_ret
              refine ⟨?_, HB2.out⟩
              rw [← HFIN.out]
              rfl
  · have HR : Hid (sureT f c ws = false) := Lib.hid (sure_chk (by rw [hE]; exact he))
    have hb0 : (E != 0) = true := by simpa using he
    clear he hE hi
    obtain ⟨A, d, rfl, _⟩ := h
    go_enter Try.func14, Try.ntmps14
    go_wp2_with fail
    refine HCK.out.mono ?_
    rintro e w1 ⟨rfl, hb1⟩
    have HB1 := Lib.hid hb1
    clear hb1
    go_wp2_with fail
    go_ret
    exact ⟨by rw [HR.out]; rfl, HB1.out⟩
end Go.Proofs.Ytiadnpipbocecaa

/-
  An argument that is a slice of wants, of whatever length; its first ones.
  Conditions: none.
-/
set_option linter.unusedVariables false
namespace Go.Proofs.Ytiadnpipbocecaa
open Go.RowKit

/-- An argument: it may be of any length. -/
def ArgAt (W : World) (v : Value) (ps : List Sp) : Prop :=
  ∃ A c, v = .slice A ps.length c ∧ ps.length ≤ c ∧ c ≤ 9223372036854775807 ∧ (A = none → c = 0) ∧
    (0 < ps.length → ∃ b off, A = some ⟨b, off, none⟩ ∧ b < W.heap.size ∧ ∀ (j : Nat) (p : Sp), ps[j]? = some p → PairAt W b (off + j * 2) p)
theorem ArgAt.keep {W W' : World} {v : Value} {ps : List Sp} (h : ArgAt W v ps) (hb : Below W.heap.size W W') : ArgAt W' v ps := by
  obtain ⟨A, c, h1, h2, h3, h4, h5⟩ := h
  refine ⟨A, c, h1, h2, h3, h4, fun hn => ?_⟩
  obtain ⟨b, off, e, hlt, hc⟩ := h5 hn
  exact ⟨b, off, e, Nat.lt_of_lt_of_le hlt hb.size, fun j x hx => (hc j x hx).keep hb hlt⟩
/-- Its first ones. -/
theorem ArgAt.cut {W : World} {A : Option Addr} {n c : Nat} {ps : List Sp} (h : ArgAt W (.slice A n c) ps) (N : Nat) (hN : N ≤ 2000000) : SpansAt W (.slice A (min n N) c) (ps.take N) := by
  obtain ⟨A', c', h1, h2, h3, h4, h5⟩ := h
  injection h1 with e1 e2 e3
  subst e1 e2 e3
  have hl : (ps.take N).length = min ps.length N := by rw [List.length_take, Nat.min_comm]
  have hmin : min ps.length N ≤ ps.length := Nat.min_le_left _ _
  have hmin2 : min ps.length N ≤ N := Nat.min_le_right _ _
  refine ⟨A, c, by rw [hl], by omega, by omega, h3, fun hn => ?_⟩
  obtain ⟨b, off, e, hlt, hc⟩ := h5 (by omega)
  refine ⟨b, off, e, hlt, fun j p hj => hc j p ?_⟩
  rw [List.getElem?_take] at hj
  split at hj
  · exact hj
  · cases hj
end Go.Proofs.Ytiadnpipbocecaa
