/-
  Proved: a plan of tables is the plan whose tables they are, or there is none; where the reading is of bulk at most 1048576.
  Conditions: none beyond the row's own.
-/
import Derived.Test.YtpjmdnhoiobedaaRefOf
import Derived.Test.YtpjmdnhoiobedaaTabAt
import Derived.Test.YtpjmdnhoiobedaaBackB
import Derived.Test.YtpjmdnhoiobedaaOf
import Derived.Test.YtpjmdnhoiobedaaTwiceMath
import Derived.Test.YtpjmdnhoiobedaaAppTb
import Derived.Test.YtpjmdnhoiobedaaRow16
import Derived.Test.YtpjmdnhoiobedaaRows
import Derived.Test.YtpjmdnhoiobedaaLawOf
import Derived.Test.YtpjmdnhoiobedaaSameP
import Derived.WalkKit
import Derived.ProofKit
import Derived.OpenShut
import Derived.ChangeOld
import Derived.Below
import Derived.JoinedCond

/-
  Equal of ints and of wants, same and EqualFunc of tables.
  Conditions: the slices read so.
-/
set_option linter.unusedVariables false
set_option linter.unusedSimpArgs false
namespace Go.Proofs.Ytpjmdnhoiobedaa
open Go.RowKit Go.Sort

theorem eq_of_first {α : Type} {xs ys : List α} {n : Nat} (hx : xs.length = n) (hy : ys.length = n) (h : ∀ j, j < n → xs[j]? = ys[j]?) : xs = ys := by
  apply List.ext_getElem?
  intro j
  by_cases hj : j < n
  · exact h j hj
  · rw [List.getElem?_eq_none (by omega), List.getElem?_eq_none (by omega)]
theorem first_more {α : Type} {xs ys : List α} {k : Nat} {x : α} (h : ∀ j, j < k → xs[j]? = ys[j]?) (hx : xs[k]? = some x) (hy : ys[k]? = some x) : ∀ j, j < k + 1 → xs[j]? = ys[j]? := fun j hj => by
  by_cases e : j = k
  · subst e; rw [hx, hy]
  · exact h j (by omega)

set_option maxRecDepth 100000 in
set_option maxHeartbeats 4000000 in
theorem eqInts_any (A B : Option Addr) (c d : Nat) (xs ys : List Int) (w : World) (hi : IntsAt w (.slice A xs.length c) xs) (hj : IntsAt w (.slice B ys.length d) ys) :
    Calls Try.prog 57 #[.slice A xs.length c, .slice B ys.length d] w (RetIff (xs = ys) w) := by
  by_cases hl : ys.length = xs.length
  · obtain ⟨n, hn⟩ : ∃ n, xs.length = n := ⟨_, rfl⟩
    have hn1 : n ≤ 9223372036854775807 := by obtain ⟨_, _, e, h, _⟩ := hi; injection e with _ _ e3; omega
    rw [hl] at hj ⊢
    rw [hn] at hi hj hl ⊢
    have HX := Lib.hid hn
    have HY := Lib.hid hl
    have HI := Lib.hid hi
    have HJ := Lib.hid hj
    have e0 : ((n : Int) != (n : Int)) = false := by simp
    clear hi hj hn hl
    go_enter Try.func57, Try.ntmps57
    go_wp2_with fail
    go_loopg [5, 13] n (fun gg _ s13 wr => ∃ k : Nat, k ≤ n ∧ gg = n - k ∧ s13 = .int .i64 k ∧ Below w.heap.size w wr ∧ Hid (∀ j, j < k → xs[j]? = ys[j]?))
    case atStart => exact ⟨0, Nat.zero_le _, by omega, rfl, Below.refl _ _, fun j h => absurd h (Nat.not_lt_zero _)⟩
    case round =>
      obtain ⟨k, hk, hg, rfl, hbw, HF⟩ := hrel
      have HG := Lib.hid hg
      have HBW := Lib.hid hbw
      clear hg
      by_cases hlt : k < n
      · have hk0 : (0 : Int) ≤ (k : Int) := by omega
        have hltz : (k : Int) < (n : Int) := by omega
        obtain ⟨x, hx⟩ := exP_at (xs := xs) (k := k) (by rw [HX.out]; exact hlt)
        obtain ⟨y, hy⟩ := exP_at (xs := ys) (k := k) (by rw [HY.out]; exact hlt)
        obtain ⟨A', c', e, _, h3⟩ := HI.out.keep hbw
        obtain ⟨b, off, e4, hbl, hc⟩ := h3 (by rw [HX.out]; omega)
        injection e with e1 e2 e3
        rw [e4] at e1
        obtain ⟨B', d', e', _, h3'⟩ := HJ.out.keep hbw
        obtain ⟨b', off', e4', hbl', hc'⟩ := h3' (by rw [HY.out]; omega)
        injection e' with e1' e2' e3'
        rw [e4'] at e1'
        subst e1 e1'
        have g0 := hc k x hx
        have g1 := hc' k y hy
        have HXK := Lib.hid hx
        have HYK := Lib.hid hy
        clear h3 hc e2 e3 e4 h3' hc' e2' e3' e4' hbw hx hy
        by_cases he : x = y
        · have ey : (x != y) = false := by simp [he]
          have HE := Lib.hid he
          clear he
          go_wp2_with fail
          go_quiet (fail)
          go_wp2_with fail
          go_roundg (n - (k + 1))
          case measure => have := HG.out; omega
          case rel => exact ⟨k + 1, by omega, rfl, by go_num, below_drewN HBW.out _, first_more HF.out HXK.out (HYK.out.trans (by rw [HE.out]))⟩
        · have ey : (x != y) = true := by simp [he]
          have HE := Lib.hid he
          clear he
          go_wp2_with fail
          go_quiet (fail)
          go_wp2_with fail
          go_ret
          exact RetIff.no (fun h => HE.out (Option.some.inj (HXK.out.symm.trans ((congrArg (fun l => l[k]?) h).trans HYK.out)))) (below_drewN HBW.out _)
      · have hltz : ¬ (k : Int) < (n : Int) := by omega
        have HEQ := Lib.hid (eq_of_first HX.out HY.out fun j hj => HF.out j (by omega))
        clear hbw
        go_wp2_with fail
        go_ret
        exact RetIff.yes HEQ.out HBW.out
  · have HNE := Lib.hid (show ¬ xs = ys from fun h => hl (by rw [h]))
    have e0 : ((xs.length : Int) != (ys.length : Int)) = true := by simp; omega
    clear hl hi hj
    go_enter Try.func57, Try.ntmps57
    go_wp2_with fail
    go_ret
    exact RetIff.no HNE.out (Below.refl _ _)

set_option maxRecDepth 100000 in
set_option maxHeartbeats 4000000 in
theorem eqWants_any (A B : Option Addr) (c d : Nat) (xs ys : List Sp) (w : World) (hi : SpansAt w (.slice A xs.length c) xs) (hj : SpansAt w (.slice B ys.length d) ys) :
    Calls Try.prog 58 #[.slice A xs.length c, .slice B ys.length d] w (RetIff (xs = ys) w) := by
  by_cases hl : ys.length = xs.length
  · obtain ⟨n, hn⟩ : ∃ n, xs.length = n := ⟨_, rfl⟩
    have hn1 : n ≤ 9223372036854775807 := by have := hi.len; omega
    rw [hl] at hj ⊢
    rw [hn] at hi hj hl ⊢
    have HX := Lib.hid hn
    have HY := Lib.hid hl
    have HI := Lib.hid hi
    have HJ := Lib.hid hj
    have e0 : ((n : Int) != (n : Int)) = false := by simp
    clear hi hj hn hl
    go_enter Try.func58, Try.ntmps58
    go_wp2_with fail
    go_loopg [5, 13] n (fun gg _ s13 wr => ∃ k : Nat, k ≤ n ∧ gg = n - k ∧ s13 = .int .i64 k ∧ Below w.heap.size w wr ∧ Hid (∀ j, j < k → xs[j]? = ys[j]?))
    case atStart => exact ⟨0, Nat.zero_le _, by omega, rfl, Below.refl _ _, fun j h => absurd h (Nat.not_lt_zero _)⟩
    case round =>
      obtain ⟨k, hk, hg, rfl, hbw, HF⟩ := hrel
      have HG := Lib.hid hg
      have HBW := Lib.hid hbw
      clear hg
      by_cases hlt : k < n
      · have hk0 : (0 : Int) ≤ (k : Int) := by omega
        have hltz : (k : Int) < (n : Int) := by omega
        obtain ⟨x, hx⟩ := exP_at (xs := xs) (k := k) (by rw [HX.out]; exact hlt)
        obtain ⟨y, hy⟩ := exP_at (xs := ys) (k := k) (by rw [HY.out]; exact hlt)
        obtain ⟨A', c', e, _, _, _, h3⟩ := HI.out.keep hbw
        obtain ⟨b, off, e4, hbl, hc⟩ := h3 (by rw [HX.out]; omega)
        injection e with e1 e2 e3
        rw [e4] at e1
        obtain ⟨B', d', e', _, _, _, h3'⟩ := HJ.out.keep hbw
        obtain ⟨b', off', e4', hbl', hc'⟩ := h3' (by rw [HY.out]; omega)
        injection e' with e1' e2' e3'
        rw [e4'] at e1'
        subst e1 e1'
        obtain ⟨g0, g0'⟩ := hc k x hx
        obtain ⟨g1, g1'⟩ := hc' k y hy
        have HXK := Lib.hid hx
        have HYK := Lib.hid hy
        clear h3 hc e2 e3 e4 h3' hc' e2' e3' e4' hbw hx hy
        obtain ⟨x1, x2⟩ := x
        obtain ⟨y1, y2⟩ := y
        simp only at g0 g0' g1 g1'
        by_cases he1 : x1 = y1
        · have ey1 : (x1 == y1) = true := by simp [he1]
          by_cases he2 : x2 = y2
          · have ey2 : (x2 == y2) = true := by simp [he2]
            have HE := Lib.hid (show (x1, x2) = (y1, y2) by rw [he1, he2])
            clear he1 he2
            go_wp2_with fail
            go_quiet (fail)
            go_wp2_with fail
            go_roundg (n - (k + 1))
            case measure => have := HG.out; omega
            case rel => exact ⟨k + 1, by omega, rfl, by go_num, below_drewN HBW.out _, first_more HF.out HXK.out (HYK.out.trans (by rw [HE.out]))⟩
          · have ey2 : (x2 == y2) = false := by simp [he2]
            have HE := Lib.hid (show (x1, x2) ≠ (y1, y2) from fun e => he2 (congrArg Prod.snd e))
            clear he1 he2
            go_wp2_with fail
            go_quiet (fail)
            go_wp2_with fail
            go_ret
            exact RetIff.no (fun h => HE.out (Option.some.inj (HXK.out.symm.trans ((congrArg (fun l => l[k]?) h).trans HYK.out)))) (below_drewN HBW.out _)
        · have ey1 : (x1 == y1) = false := by simp [he1]
          have HE := Lib.hid (show (x1, x2) ≠ (y1, y2) from fun e => he1 (congrArg Prod.fst e))
          clear he1
          go_wp2_with fail
          go_quiet (fail)
          go_wp2_with fail
          go_ret
          exact RetIff.no (fun h => HE.out (Option.some.inj (HXK.out.symm.trans ((congrArg (fun l => l[k]?) h).trans HYK.out)))) (below_drewN HBW.out _)
      · have hltz : ¬ (k : Int) < (n : Int) := by omega
        have HEQ := Lib.hid (eq_of_first HX.out HY.out fun j hj => HF.out j (by omega))
        clear hbw
        go_wp2_with fail
        go_ret
        exact RetIff.yes HEQ.out HBW.out
  · have HNE := Lib.hid (show ¬ xs = ys from fun h => hl (by rw [h]))
    have e0 : ((xs.length : Int) != (ys.length : Int)) = true := by simp; omega
    clear hl hi hj
    go_enter Try.func58, Try.ntmps58
    go_wp2_with fail
    go_ret
    exact RetIff.no HNE.out (Below.refl _ _)

set_option maxRecDepth 100000 in
set_option maxHeartbeats 4000000 in
theorem same_any (x y : Tb) (A1 B1 A2 B2 : Option Addr) (c1 d1 c2 d2 : Nat) (w : World) (hi : IntsAt w (.slice A1 x.ts.length c1) x.ts) (hj : IntsAt w (.slice B1 y.ts.length d1) y.ts) (hs : SpansAt w (.slice A2 x.ws.length c2) x.ws) (ht : SpansAt w (.slice B2 y.ws.length d2) y.ws) :
    Calls Try.prog 34 #[.agg #[.int .i64 x.c, .slice A1 x.ts.length c1, .slice A2 x.ws.length c2], .agg #[.int .i64 y.c, .slice B1 y.ts.length d1, .slice B2 y.ws.length d2]] w (RetIff (x = y) w) := by
  obtain ⟨w1, P, hw1, hP, hPl, hb1, hpx⟩ := box_any w #[.int .i64 x.c, .slice A1 x.ts.length c1, .slice A2 x.ws.length c2] 38
  obtain ⟨w2, Q, hw2, hQ, hQl, hb2, hqx⟩ := box_any w1 #[.int .i64 y.c, .slice B1 y.ts.length d1, .slice B2 y.ws.length d2] 38
  have HB2 := Lib.hid (hb1.trans (hb2.mono hb1.size))
  have HI := Lib.hid ((hi.keep hb1).keep hb2)
  have HJ := Lib.hid ((hj.keep hb1).keep hb2)
  have HS := Lib.hid ((hs.keep hb1).keep hb2)
  have HT := Lib.hid ((ht.keep hb1).keep hb2)
  have HPX := Lib.hid (keep_block hpx hb2)
  have HQX := Lib.hid hqx
  obtain ⟨p0, p1, p2⟩ := three_heads HPX.out
  obtain ⟨q0, q1, q2⟩ := three_heads HQX.out
  have HE1 := Lib.hid (calls_iff (eqInts_any A1 B1 c1 d1 x.ts y.ts w2 HI.out HJ.out))
  clear hi hj hs ht hb1 hb2 hpx hqx
  by_cases h0 : x.c = y.c
  · have e0 : (x.c == y.c) = true := by simp [h0]
    have H0 := Lib.hid h0
    clear h0
    by_cases h1 : x.ts = y.ts
    · have HC1 := Lib.hid (HE1.out.1 h1)
      have H1 := Lib.hid h1
      clear h1
      go_enter Try.func34, Try.ntmps34
      go_wp2_with fail
      refine HC1.out.mono ?_
      rintro e w3 ⟨rfl, hb3⟩
      have HB3 := Lib.hid (HB2.out.trans (hb3.mono HB2.out.size))
      have HE2 := Lib.hid (calls_iff (eqWants_any A2 B2 c2 d2 x.ws y.ws w3 (HS.out.keep hb3) (HT.out.keep hb3)))
      clear p0 p1 p2 q0 q1 q2
      obtain ⟨p0, p1, p2⟩ := three_heads (keep_block HPX.out hb3)
      obtain ⟨q0, q1, q2⟩ := three_heads (keep_block HQX.out hb3)
      clear hb3
      by_cases h2 : x.ws = y.ws
      · have HC2 := Lib.hid (HE2.out.1 h2)
        have H2 := Lib.hid h2
        clear h2
        go_wp2_with fail
        refine HC2.out.mono ?_
        rintro e w4 ⟨rfl, hb4⟩
        have HB4 := Lib.hid (HB3.out.trans (hb4.mono HB3.out.size))
        clear hb4
        go_wp2_with fail
        go_ret
        exact RetIff.yes (Tb.ext' H0.out H1.out H2.out) HB4.out
      · have HC2 := Lib.hid (HE2.out.2 h2)
        have H2 := Lib.hid h2
        clear h2
        go_wp2_with fail
        refine HC2.out.mono ?_
        rintro e w4 ⟨rfl, hb4⟩
        have HB4 := Lib.hid (HB3.out.trans (hb4.mono HB3.out.size))
        clear hb4
        go_wp2_with fail
        go_ret
        exact RetIff.no (fun h => H2.out (by rw [h])) HB4.out
    · have HC1 := Lib.hid (HE1.out.2 h1)
      have H1 := Lib.hid h1
      clear h1
      go_enter Try.func34, Try.ntmps34
      go_wp2_with fail
      refine HC1.out.mono ?_
      rintro e w3 ⟨rfl, hb3⟩
      have HB3 := Lib.hid (HB2.out.trans (hb3.mono HB2.out.size))
      clear hb3
      go_wp2_with fail
      go_ret
      exact RetIff.no (fun h => H1.out (by rw [h])) HB3.out
  · have e0 : (x.c == y.c) = false := by simp [h0]
    have H0 := Lib.hid h0
    clear h0
    go_enter Try.func34, Try.ntmps34
    go_wp2_with fail
    go_ret
    exact RetIff.no (fun h => H0.out (by rw [h])) HB2.out

set_option maxRecDepth 100000 in
set_option maxHeartbeats 8000000 in
theorem eqTabs_any (u v : Value) (l k : List Tb) (w : World) (h : TabsAt w u l) (h2 : TabsAt w v k) :
    Calls Try.prog 33 #[u, v, .func (.func 34) #[] #[]] w (RetIff (l = k) w) := by
  have eg : ∀ args w, (callFunc 34 args).run Try.prog w = .ok (.enter 34 args) w := enters_of Try.func34 (by kernel_rfl) rfl
  obtain ⟨A, cA, rfl, hlc, hcm⟩ := h.form
  obtain ⟨B, cB, rfl, hlc2, hcm2⟩ := h2.form
  by_cases hl : k.length = l.length
  · obtain ⟨n, hn⟩ : ∃ n, l.length = n := ⟨_, rfl⟩
    rw [hl] at h2 ⊢
    rw [hn] at h h2 hl hlc ⊢
    have hn1 : n ≤ 9223372036854775807 := by omega
    have HX := Lib.hid hn
    have HY := Lib.hid hl
    have HI := Lib.hid h
    have HJ := Lib.hid h2
    have e0 : ((n : Int) != (n : Int)) = false := by simp
    clear h h2 hn hl hlc hcm hlc2 hcm2
    go_enter Try.func33, Try.ntmps33
    go_wp2_with fail
    go_loopg [7, 8, 9, 17] n (fun gg _ _ _ s17 wr => ∃ i : Nat, i ≤ n ∧ gg = n - i ∧ s17 = .int .i64 i ∧ Below w.heap.size w wr ∧ Hid (∀ j, j < i → l[j]? = k[j]?))
    case atStart => exact ⟨0, Nat.zero_le _, by omega, rfl, Below.refl _ _, fun j h => absurd h (Nat.not_lt_zero _)⟩
    case round =>
      obtain ⟨i, hk, hg, rfl, hbw, HF⟩ := hrel
      have HG := Lib.hid hg
      have HBW := Lib.hid hbw
      clear hg
      by_cases hlt : i < n
      · have hk0 : (0 : Int) ≤ (i : Int) := by omega
        have hltz : (i : Int) < (n : Int) := by omega
        obtain ⟨x, hx⟩ := exP_at (xs := l) (k := i) (by rw [HX.out]; exact hlt)
        obtain ⟨y, hy⟩ := exP_at (xs := k) (k := i) (by rw [HY.out]; exact hlt)
        obtain ⟨ba, oa, A1, c1, A2, c2, hA, lba, g0, g1, g2, hi1, hs1⟩ := (HI.out.keep hbw).at_ hx
        obtain ⟨bb, ob, B1, d1, B2, d2, hB, lbb, k0, k1, k2, hi2, hs2⟩ := (HJ.out.keep hbw).at_ hy
        subst hA hB
        have HXK := Lib.hid hx
        have HYK := Lib.hid hy
        obtain ⟨w1, P, hw1, hP, hPl, hb1, hpx⟩ := box_any wr #[.int .i64 x.c, .slice A1 x.ts.length c1, .slice A2 x.ws.length c2] 38
        obtain ⟨w2, Q, hw2, hQ, hQl, hb2, hqx⟩ := box_any w1 #[.int .i64 y.c, .slice B1 y.ts.length d1, .slice B2 y.ws.length d2] 38
        have hb12 := hb1.trans (hb2.mono hb1.size)
        have HB2 := Lib.hid (HBW.out.trans (hb12.mono HBW.out.size))
        have HCS := Lib.hid (calls_iff (same_any x y A1 B1 A2 B2 c1 d1 c2 d2 w2 (hi1.keep hb12) (hi2.keep hb12) (hs1.keep hb12) (hs2.keep hb12)))
        obtain ⟨p0, p1, p2⟩ := three_heads (keep_block hpx hb2)
        obtain ⟨q0, q1, q2⟩ := three_heads hqx
        have k0' := (hb1.cell (p := ⟨bb, ob + i * 3, none⟩) lbb).trans k0
        have k1' := (hb1.cell (p := ⟨bb, ob + i * 3 + 1, none⟩) lbb).trans k1
        have k2' := (hb1.cell (p := ⟨bb, ob + i * 3 + 2, none⟩) lbb).trans k2
        clear hbw hx hy hi1 hi2 hs1 hs2 hpx hqx hb1 hb2 hb12
        by_cases he : x = y
        · have HC := Lib.hid (HCS.out.1 he)
          have HE := Lib.hid he
          clear he
          go_wp2_with (go_at_fn 34; refine HC.out.mono ?_; rintro e w' ⟨rfl, hb'⟩)
          go_roundg (n - (i + 1))
          case measure => have := HG.out; omega
          case rel => exact ⟨i + 1, by omega, rfl, by go_num, HB2.out.trans (hb'.mono HB2.out.size), first_more HF.out HXK.out (HYK.out.trans (by rw [HE.out]))⟩
        · have HC := Lib.hid (HCS.out.2 he)
          have HE := Lib.hid he
          clear he
          go_wp2_with (go_at_fn 34; refine HC.out.mono ?_; rintro e w' ⟨rfl, hb'⟩)
          go_ret
          exact RetIff.no (fun h => HE.out (Option.some.inj (HXK.out.symm.trans ((congrArg (fun l => l[i]?) h).trans HYK.out)))) (HB2.out.trans (hb'.mono HB2.out.size))
      · have hltz : ¬ (i : Int) < (n : Int) := by omega
        have HEQ := Lib.hid (eq_of_first HX.out HY.out fun j hj => HF.out j (by omega))
        clear hbw
        go_wp2_with fail
        go_ret
        exact RetIff.yes HEQ.out HBW.out
  · have HNE := Lib.hid (show ¬ l = k from fun h => hl (by rw [h]))
    have e0 : ((l.length : Int) != (k.length : Int)) = true := by simp; omega
    clear hl h h2
    go_enter Try.func33, Try.ntmps33
    go_wp2_with fail
    go_ret
    exact RetIff.no HNE.out (Below.refl _ _)
end Go.Proofs.Ytpjmdnhoiobedaa

/-
  Back of the program: the plan of tables, or ErrPlan.
  Conditions: the slice reads as tables; they are not too many.
-/
set_option linter.unusedVariables false
set_option linter.unusedSimpArgs false
namespace Go.Proofs.Ytpjmdnhoiobedaa
open Go.RowKit Go.Sort

/-! ### Numbers of their kinds -/
theorem widP_core {ps : List Pc} {c : Int} {k : Nat} {y : Pc} (h : y ∈ widP ps c k) : y.c = c ∨ y ∈ ps := by
  unfold widP at h
  split at h
  · rw [List.mem_singleton.1 h]; exact .inl rfl
  · split at h
    · rcases List.mem_append.1 h with h | h
      · exact .inr (List.dropLast_subset _ h)
      · rw [List.mem_singleton.1 h]; exact .inl rfl
    · rcases List.mem_append.1 h with h | h
      · exact .inr h
      · rw [List.mem_singleton.1 h]; exact .inl rfl
def CoB (S : Spl) : Prop := ∀ q, ∀ y ∈ (S.2 q).ps, Int64 y.c
theorem CoB.tick {S : Spl} {c : Int} (h : CoB S) (hc : Int64 c) (t : Nat) (u : Int) : CoB (tickS c t S u) := by
  unfold tickS
  by_cases e : u = 0
  · rw [if_pos e]; exact h
  · rw [if_neg e]
    intro q y hy
    have h1 : (stepS c (t : Int) S u).2 q = if q = u then widT (S.2 u) u c (ofI [(t : Int)]) else S.2 q := rfl
    rw [h1] at hy
    by_cases e2 : q = u
    · rw [if_pos e2] at hy
      rcases widP_core hy with h2 | h2
      · rw [h2]; exact hc
      · exact h u y h2
    · rw [if_neg e2] at hy
      exact h q y hy
theorem CoB.row {c : Int} (hc : Int64 c) : ∀ (l : List Int) (t : Nat) {S : Spl}, CoB S → CoB (rowSp c t l S)
  | [], _, _, h => h
  | u :: l, t, _, h => CoB.row hc l (t + 1) (h.tick hc t u)
theorem splT_co {l : List Tb} (ho : TsOk l) : ∀ k, k ≤ l.length → CoB (splT (l.take k))
  | 0, _ => fun q y hy => by cases hy
  | k + 1, hk => by
    have hx : l[k]? = some l[k] := List.getElem?_eq_getElem (by omega)
    rw [splT_take hx]
    exact CoB.row (ho _ (List.mem_of_getElem? hx)).1 _ _ (splT_co ho k (by omega))
theorem join_wide {l : List Tb} {L : List Pl} (ho : TsOk l) (hl : l.length ≤ 20) (hn : ticksN l + wantsN l ≤ 1200000) (h : L.Perm (wholesA l ++ (splT l).1.map (splT l).2)) : WideL L := by
  have hb := splT_b ho 0 l.length (Nat.le_refl _)
  have hc := splT_co ho l.length (Nat.le_refl _)
  rw [List.take_of_length_le (Nat.le_refl _)] at hb hc
  refine ⟨?_, fun x hx => ?_⟩
  · rw [h.length_eq, List.length_append, List.length_map, wholesA_length]
    have := hb.few
    omega
  · rcases List.mem_append.1 (h.mem_iff.1 hx) with h1 | h1
    · unfold wholesA at h1
      obtain ⟨t, ht, h2⟩ := List.mem_flatMap.1 h1
      obtain ⟨p, hp, rfl⟩ := List.mem_map.1 h2
      have h3 := ho t ht
      exact ⟨⟨(h3.2.2 p hp).1, (h3.2.2 p hp).2, h3.1, fun y hy => by cases hy⟩, Nat.zero_le _⟩
    · obtain ⟨q, hq, rfl⟩ := List.mem_map.1 h1
      have h3 := hb.each q
      refine ⟨⟨?_, ?_, ?_, fun y hy => ⟨hc q y hy, h3.t y hy⟩⟩, ?_⟩
      · rw [hb.unit q hq]; exact hb.in64 q hq
      · have h4 := h3.s0
        have h5 := h3.s1
        constructor <;> omega
      · rw [h3.c0]; constructor <;> decide
      · rcases h3.len with h4 | h4 <;> omega
theorem Right.light {f : Int} {m : Nat} {l : List Pl} (h : Right f m l) (hw : WideL l) : LightL l := by
  refine ⟨?_, hw.ok⟩
  have h1 : (l.map fun y => idxU y.u).length ≤ 240 := by
    refine nodup_lt 240 _ ?_ ?_
    · rw [List.Nodup, List.pairwise_iff_getElem]
      intro i j hi hj hij he
      rw [List.length_map] at hi hj
      rw [List.getElem_map, List.getElem_map] at he
      obtain ⟨d, rfl⟩ : ∃ d, j = i + d + 1 := ⟨j - i - 1, by omega⟩
      have h2 := h.rises d i _ _ (List.getElem?_eq_getElem hi) (List.getElem?_eq_getElem hj)
      have h3 := idxU_inj (h.place _ (List.getElem_mem hi)).unit (h.place _ (List.getElem_mem hj)).unit he
      omega
    · intro x hx
      obtain ⟨y, hy, rfl⟩ := List.mem_map.1 hx
      exact idxU_lt (h.place y hy).unit
  rw [List.length_map] at h1
  omega

/-! ### A plan's own block is none of its places' -/
theorem pn_cell {W : World} {R : Nat} {f : Int} {M : Nat} {v : Value} {T : TypeId} (h : W.heap[R]? = some (.cells #[.int .i64 f, .int .u32 (M : Int), v] T (0, 0))) (o : Nat) :
    W.cell? ⟨R, o, none⟩ = (#[.int .i64 f, .int .u32 (M : Int), v] : Array Value)[o]? := by
  simp [World.cell?, h]
theorem pcs_not {F : Nat → Prop} {W : World} {R : Nat} {f : Int} {M : Nat} {v u : Value} {T : TypeId} (h : W.heap[R]? = some (.cells #[.int .i64 f, .int .u32 (M : Int), v] T (0, 0))) {ps : List Pc} (hp : PcsIn F W u ps) : PcsIn (fun b => F b ∧ b ≠ R) W u ps := by
  obtain ⟨A, c, e, h1, h2, h3⟩ := hp
  refine ⟨A, c, e, h1, h2, fun hn => ?_⟩
  obtain ⟨b, off, e2, hb, hF, hc⟩ := h3 hn
  refine ⟨b, off, e2, hb, ⟨hF, ?_⟩, hc⟩
  rintro rfl
  obtain ⟨y, hy⟩ := exP_at (xs := ps) (k := 0) hn
  obtain ⟨g0, g1⟩ := hc 0 y hy
  rw [pn_cell h] at g0 g1
  rcases off with _ | _ | _ | off <;> simp at g0 g1
theorem pls_not {F : Nat → Prop} {W : World} {R : Nat} {f : Int} {M : Nat} {v u : Value} {T : TypeId} (h : W.heap[R]? = some (.cells #[.int .i64 f, .int .u32 (M : Int), v] T (0, 0))) {l : List Pl} (hp : PlsIn F W u l) : PlsIn (fun b => F b ∧ b ≠ R) W u l := by
  obtain ⟨ls, rfl, A, c, e, h1, h2, h3, h4⟩ := hp
  refine ⟨ls, rfl, A, c, e, h1, h2, fun hn => ?_, fun p hp => pcs_not h (h4 p hp)⟩
  obtain ⟨b, off, e2, hb, hF, hc⟩ := h3 hn
  refine ⟨b, off, e2, hb, ⟨hF, ?_⟩, hc⟩
  rintro rfl
  obtain ⟨y, hy⟩ := exP_at (xs := ls) (k := 0) hn
  obtain ⟨g0, g1, _⟩ := hc 0 y hy
  rw [pn_cell h] at g0 g1
  rcases off with _ | _ | _ | off <;> simp at g0 g1

/-! ### Back -/
/-- What comes of joining tables. -/
structure Joins (l : List Tb) (L : List Pl) : Prop where
  rise : RiseU L
  perm : L.Perm (wholesA l ++ (splT l).1.map (splT l).2)
def BackOk (f : Int) (l : List Tb) (L : List Pl) : Prop := Right f (coresT l) L ∧ tabsOf f.toNat (coresT l) L = l
def RetBack (f : Int) (l : List Tb) (w : World) (e : Ending) (w' : World) : Prop := ∃ L, Joins l L ∧ Below w.heap.size w w' ∧
  ((BackOk f l L ∧ ∃ v, e = .returned (.tuple #[planA f (coresT l) v, .int .i64 0]) ∧ PlsAt w' v L) ∨ (¬ BackOk f l L ∧ e = .returned (.tuple #[planA 0 0 (.slice none 0 0), .int .i64 30])))

set_option maxRecDepth 100000 in
set_option maxHeartbeats 8000000 in
theorem back_any (f : Int) (v : Value) (l : List Tb) (w : World) (h : TabsAt w v l) (hl : l.length ≤ 20) (ho : TsOk l) (hn : ticksN l + wantsN l ≤ 1200000) :
    Calls Try.prog 13 #[.int .i64 f, v] w (RetBack f l w) := by
  have hm : coresT l < 4294967296 := by
    have := coresT_lt l l.length
    rwa [List.take_of_length_le (Nat.le_refl _)] at this
  have HJN := Lib.hid (fun W h => join_any f v l W h hl ho hn)
  have HWD := Lib.hid (fun L h => join_wide (L := L) ho hl hn h)
  have HV := Lib.hid h
  obtain ⟨A, cA, rfl, hlc, hcm⟩ := h.form
  obtain ⟨N, hN⟩ : ∃ N, l.length = N := ⟨_, rfl⟩
  rw [hN] at HJN HV hl hlc ⊢
  obtain ⟨M, hM⟩ : ∃ M, coresT l = M := ⟨_, rfl⟩
  rw [hM] at hm
  have HM := Lib.hid hM
  obtain ⟨w0, R, hw0, hR, hRl, hb0, hrb⟩ := box_any w #[.int .i64 0, .int .u32 0, .slice none 0 0] 25
  have HB0 := Lib.hid hb0
  have HRB := Lib.hid hrb
  have HLT := Lib.hid (show w.heap.size ≤ R by omega)
  have mixed : Try.prog.follows .mixedOrders = true := by kernel_rfl
  clear h ho hn hN hM hb0 hrb
  go_enter Try.func13, Try.ntmps13
  go_wp2_with fail
  refine (HJN.out _ (HV.out.keep HB0.out)).mono ?_
  rintro e w1 ⟨vL, L, rfl, hp, hb1, hrise, hperm⟩
  rw [HM.out]
  have hw := HWD.out L hperm
  have HJO := Lib.hid (show Joins l L from ⟨hrise, hperm⟩)
  obtain ⟨B, cB, rfl, hBc, hBm⟩ := hp.form
  obtain ⟨wz, P, hwz, hP, hPl, hbz, hpz⟩ := box_any w1 #[.int .i64 0, .int .u32 0, .slice none 0 0] 25
  have HPZ := Lib.hid hpz
  obtain ⟨w2, hw2⟩ : ∃ w2, wz.setRow P #[.int .i64 f, .int .u32 M, .slice B L.length cB] = w2 := ⟨_, rfl⟩
  have hpb : w2.heap[P]? = some (.cells #[.int .i64 f, .int .u32 M, .slice B L.length cB] 25 (0, 0)) := by rw [← hw2]; exact setRow_heap _ _ _ _ _ _ hpz
  have hb2 : Below w1.heap.size w1 w2 := by rw [← hw2]; exact below_row hbz (by omega) _
  have HPB := Lib.hid hpb
  have HB2 := Lib.hid (HB0.out.trans ((hb1.trans (hb2.mono hb1.size)).mono HB0.out.size))
  have HR2 := Lib.hid (keep_block HRB.out (hb1.trans (hb2.mono hb1.size)))
  have HPL := Lib.hid (hp.keep hb2)
  obtain ⟨p0, p1, p2⟩ := three_heads hpb
  clear hw0 hR hp hb1 hrise hperm hb2 hpb hpz hbz
  unfold planA
  go_wp2_with (refine wpList_store_row rfl _ _ _ rfl P #[.int .i64 f, .int .u32 M, .slice B L.length cB] rfl rfl 25 _ HPZ.out (Try.sizePn _ _ _) rfl (one3 _ _ _ _ _) ?_)
  by_cases hr : Right f M L
  · obtain ⟨n, rfl⟩ : ∃ n : Nat, f = (n : Int) := ⟨f.toNat, by have := hr.f2; omega⟩
    have HOF := Lib.hid (of_right n M (.slice B L.length cB) L w2 HPL.out (hr.light hw) hr)
    unfold planA at HOF
    refine HOF.out.mono ?_
    rintro e w3 ⟨va, rfl, hta, hb3⟩
    have HB3 := Lib.hid (HB2.out.trans (hb3.mono HB2.out.size))
    have HPB3 := Lib.hid (keep_block HPB.out hb3)
    have HR3 := Lib.hid (keep_block HR2.out hb3)
    have HPL3 := Lib.hid (HPL.out.keep hb3)
    have HEQ := Lib.hid (calls_iff (eqTabs_any va (.slice A N cA) (tabsOf n M L) l w3 hta (HV.out.keep HB3.out)))
    obtain ⟨C, cC, rfl, _, _⟩ := hta.form
    have HRI := Lib.hid hr
    clear p0 p1 p2 hta hb3 hr hw
    obtain ⟨p0, p1, p2⟩ := three_heads HPB3.out
    by_cases he : tabsOf n M L = l
    · have HC := Lib.hid (HEQ.out.1 he)
      have HE := Lib.hid he
      clear he
      go_wp2_with fail
      refine HC.out.mono ?_
      rintro e w4 ⟨rfl, hb4⟩
      have HB4 := Lib.hid (HB3.out.trans (hb4.mono HB3.out.size))
      have HR4 := Lib.hid (keep_block HR3.out hb4)
      have HPL4 := Lib.hid (HPL3.out.keep hb4)
      clear p0 p1 p2
      obtain ⟨p0, p1, p2⟩ := three_heads (keep_block HPB3.out hb4)
      clear hb4
      go_wp2_with (refine wpList_store_row rfl _ _ _ rfl R #[.int .i64 (n : Int), .int .u32 M, .slice B L.length cB] rfl rfl 25 _ HR4.out (Try.sizePn _ _ _) rfl (one3 _ _ _ _ _) ?_)
      refine bodyPost_ret (v := .tuple #[planA n M (.slice B L.length cB), .int .i64 0]) (results_row_tmp rfl _ _ R _ _ _ _ rfl (setRow_heap _ _ _ _ _ _ HR4.out) Try.underlying25 rfl (Try.sizePn _ _ _) _ rfl) rfl ?_
      refine ⟨L, HJO.out, below_row HB4.out HLT.out _, .inl ⟨⟨by rw [HM.out]; exact HRI.out, by rw [HM.out]; exact HE.out⟩, _, by rw [HM.out], ?_⟩⟩
      exact ((pls_not HR4.out HPL4.out).keepF (by simp [World.setRow]) fun b _ hF => setRow_other _ _ _ _ hF.2).any
    · have HC := Lib.hid (HEQ.out.2 he)
      have HE := Lib.hid he
      clear he
      go_wp2_with fail
      refine HC.out.mono ?_
      rintro e w4 ⟨rfl, hb4⟩
      have HB4 := Lib.hid (HB3.out.trans (hb4.mono HB3.out.size))
      have HR4 := Lib.hid (keep_block HR3.out hb4)
      clear p0 p1 p2 hb4
      go_wp2_with (refine wpList_store_row rfl _ _ _ rfl R #[.int .i64 0, .int .u32 0, .slice none 0 0] rfl rfl 25 _ HR4.out (Try.sizePn _ _ _) rfl (one3 _ _ _ _ _) ?_)
      refine bodyPost_ret (v := .tuple #[planA 0 0 (.slice none 0 0), .int .i64 30]) (results_row_tmp rfl _ _ R _ _ _ _ rfl (setRow_heap _ _ _ _ _ _ HR4.out) Try.underlying25 rfl (Try.sizePn _ _ _) _ rfl) rfl ?_
      exact ⟨L, HJO.out, below_row HB4.out HLT.out _, .inr ⟨fun h => HE.out (by have h2 := h.2; rw [HM.out] at h2; exact h2), rfl⟩⟩
  · have HOF := Lib.hid (of_bad f M (.slice B L.length cB) L w2 HPL.out hw hm hr)
    unfold planA at HOF
    refine HOF.out.mono ?_
    rintro e w3 ⟨rfl, hb3⟩
    have HB3 := Lib.hid (HB2.out.trans (hb3.mono HB2.out.size))
    have HR3 := Lib.hid (keep_block HR2.out hb3)
    have HRI := Lib.hid hr
    clear p0 p1 p2 hb3 hr hw
    go_wp2_with (refine wpList_store_row rfl _ _ _ rfl R #[.int .i64 0, .int .u32 0, .slice none 0 0] rfl rfl 25 _ HR3.out (Try.sizePn _ _ _) rfl (one3 _ _ _ _ _) ?_)
    refine bodyPost_ret (v := .tuple #[planA 0 0 (.slice none 0 0), .int .i64 30]) (results_row_tmp rfl _ _ R _ _ _ _ rfl (setRow_heap _ _ _ _ _ _ HR3.out) Try.underlying25 rfl (Try.sizePn _ _ _) _ rfl) rfl ?_
    exact ⟨L, HJO.out, below_row HB3.out HLT.out _, .inr ⟨fun h => HRI.out (by have h2 := h.1; rw [HM.out] at h2; exact h2), rfl⟩⟩
end Go.Proofs.Ytpjmdnhoiobedaa

/-
  The law's tables as the program's.
  Conditions: the slice reads as tables; they are not too many.
-/
set_option linter.unusedVariables false
set_option linter.unusedSimpArgs false
namespace Go.Proofs.Ytpjmdnhoiobedaa
open Go.RowKit Go.Sort

theorem ints_lt {W : World} {v : Value} {ps : List Int} (h : IntsAt W v ps) : InB (fun b => b < W.heap.size) ps.length v := fun hn b hb => by
  obtain ⟨A, c, rfl, _, h3⟩ := h
  obtain ⟨b', off, rfl, hlt, _⟩ := h3 hn
  cases hb
  exact hlt

set_option maxRecDepth 100000 in
set_option maxHeartbeats 8000000 in
theorem ours_any (v : Value) (l : List Tb) (w : World) (h : TabsAt w v l) (hl : l.length ≤ 1000) :
    Calls Try.prog 14 #[v] w (RetTabs l w) := by
  obtain ⟨A, cA, rfl, hlc, hcm⟩ := h.form
  have HL := Lib.hid h
  obtain ⟨n, hn⟩ : ∃ n, l.length = n := ⟨_, rfl⟩
  rw [hn] at HL hl hlc ⊢
  have HN := Lib.hid hn
  have mixed : Try.prog.follows .mixedOrders = true := by kernel_rfl
  clear h hn
  go_enter Try.func14, Try.ntmps14
  go_wp2_with fail
  go_loopg [3, 4] n (fun gg s3 s4 wr => ∃ (i : Nat) (ls : List Rt), i ≤ n ∧ gg = n - i ∧ s4 = .int .i64 i ∧ Below w.heap.size w wr ∧ tbsR ls = l.take i ∧ RowTb 38 wr w.heap.size (fun _ => True) s3 ls)
  case atStart => exact ⟨0, [], Nat.zero_le _, by omega, rfl, Below.refl _ _, rfl, RowTb.nil _ _ _ _⟩
  case round =>
    obtain ⟨i, ls, hi1, hg1, rfl, hbw, hls, hrow⟩ := hrel
    have HGI := Lib.hid hg1
    have HBW := Lib.hid hbw
    have HLS := Lib.hid hls
    have HRW := Lib.hid hrow
    clear hg1 hbw hls hrow
    by_cases hin : i < n
    · have hi0 : (0 : Int) ≤ (i : Int) := by omega
      have hiz : (i : Int) < (n : Int) := by omega
      obtain ⟨x, hx⟩ := exP_at (xs := l) (k := i) (by rw [HN.out]; exact hin)
      obtain ⟨b, o, A1, c1, A2, c2, hA, hbl, g0', g1', g2', hi1', hs1'⟩ := HL.out.at_ hx
      subst hA
      have HX := Lib.hid hx
      have hk0 : Below wr.heap.size wr wr.drew := (Below.refl _ wr).drew
      have HS3 : Hid (∀ W, Below wr.heap.size wr W → W.cell? ⟨b, o + i * 3, none⟩ = some (.int .i64 x.c) ∧ W.cell? ⟨b, o + i * 3 + 1, none⟩ = some (.slice A1 x.ts.length c1) ∧ W.cell? ⟨b, o + i * 3 + 2, none⟩ = some (.slice A2 x.ws.length c2)) := Lib.hid (fun W hk => by
        have hk2 := HBW.out.trans (hk.mono HBW.out.size)
        exact ⟨(hk2.cell (p := ⟨b, o + i * 3, none⟩) hbl).trans g0', (hk2.cell (p := ⟨b, o + i * 3 + 1, none⟩) hbl).trans g1', (hk2.cell (p := ⟨b, o + i * 3 + 2, none⟩) hbl).trans g2'⟩)
      have HTB : Hid (∀ W, Below wr.heap.size wr W → TbIn (fun b => True ∧ u3.ownBlock ≠ some b) W ((A1, c1), (A2, c2), x)) := Lib.hid (fun W hk => by
        have hk2 := HBW.out.trans (hk.mono HBW.out.size)
        have hno : ∀ q, q < w.heap.size → u3.ownBlock ≠ some q := fun q hq e => by have := own_base5 HRW.out.own q e; omega
        exact ⟨hi1'.keep hk2, hs1'.keep hk2, fun h0 q hq => ⟨trivial, hno q (ints_lt hi1' h0 q hq)⟩, fun h0 q hq => ⟨trivial, hno q (spans_lt hs1' h0 q hq)⟩⟩)
      have hbn : u3.ownBlock ≠ some b := fun e => by have := own_base5 HRW.out.own b e; omega
      have hle : ls.length ≤ 1000 := by rw [← tbsR_length, HLS.out, List.length_take]; omega
      obtain ⟨r0, r1, r2⟩ := HS3.out _ (Below.refl _ wr)
      clear hx g0' g1' g2' hi1' hs1'
      go_wp2_with fail
      clear r0 r1 r2
      refine wp_region_held_drew (S := fun w' => w'.cell? ⟨b, o + i * 3, none⟩ = some (.int .i64 x.c) ∧ w'.cell? ⟨b, o + i * 3 + 1, none⟩ = some (.slice A1 x.ts.length c1) ∧ w'.cell? ⟨b, o + i * 3 + 2, none⟩ = some (.slice A2 x.ws.length c2)) (by kernel_rfl) ?_ (fun hHeld => ?_)
      · exact HS3.out _ hk0
      refine wpAnyH_take (i := 0) (oi := ⟨some 11, _, _, _, _, _⟩) (v := ?_) rfl (by kernel_rfl) (by kernel_rfl) (by kernel_rfl) (fun _ _ _ h => h) (Or.inl ⟨by kernel_rfl, ?_⟩) (by assumption) ?_
      rotate_left
      · (intro w hSw; (try dsimp only at hSw); go_simp; try with_reducible rfl)
      (try simp only [Act.put, List.setIfInBounds_toArray, List.set_cons_zero, List.set_cons_succ])
      refine wpAnyH_take (i := 1) (oi := ⟨some 12, _, _, _, _, _⟩) (v := ?_) rfl (by kernel_rfl) (by kernel_rfl) (by kernel_rfl) (fun _ _ _ h => h) (Or.inl ⟨by kernel_rfl, ?_⟩) (by assumption) ?_
      rotate_left
      · (intro w hSw; (try dsimp only at hSw); go_simp; try with_reducible rfl)
      (try simp only [Act.put, List.setIfInBounds_toArray, List.set_cons_zero, List.set_cons_succ])
      refine wpAnyH_take (i := 2) (oi := ⟨some 13, _, _, _, _, _⟩) (v := ?_) rfl (by kernel_rfl) (by kernel_rfl) (by kernel_rfl) (fun _ _ _ h => h) (Or.inl ⟨by kernel_rfl, ?_⟩) (by assumption) ?_
      rotate_left
      · (intro w hSw; (try dsimp only at hSw); go_simp; try with_reducible rfl)
      (try simp only [Act.put, List.setIfInBounds_toArray, List.set_cons_zero, List.set_cons_succ])
      refine wpAnyH_take (i := 3) (oi := ⟨some 14, _, _, _, _, _⟩) (v := ?_) rfl (by kernel_rfl) (by kernel_rfl) (by kernel_rfl) (fun _ _ _ h => h) (Or.inl ⟨by kernel_rfl, ?_⟩) (by assumption) ?_
      rotate_left
      · (intro w hSw; (try dsimp only at hSw); go_simp; try with_reducible rfl)
      (try simp only [Act.put, List.setIfInBounds_toArray, List.set_cons_zero, List.set_cons_succ])
      refine wpAnyH_take (i := 4) (oi := ⟨some 15, _, _, _, _, _⟩) (v := ?_) rfl (by kernel_rfl) (by kernel_rfl) (by kernel_rfl) (fun _ _ _ h => h) (Or.inl ⟨by kernel_rfl, ?_⟩) (by assumption) ?_
      rotate_left
      · (intro w hSw; (try dsimp only at hSw); go_simp; try with_reducible rfl)
      (try simp only [Act.put, List.setIfInBounds_toArray, List.set_cons_zero, List.set_cons_succ])
      refine wpAnyH_take (i := 5) (oi := ⟨some 16, _, _, _, _, _⟩) (v := ?_) rfl (by kernel_rfl) (by kernel_rfl) (by kernel_rfl) (fun _ _ _ h => h) (Or.inl ⟨by kernel_rfl, ?_⟩) (by assumption) ?_
      rotate_left
      · (intro w hSw; (try dsimp only at hSw); go_simp; try with_reducible rfl)
      (try simp only [Act.put, List.setIfInBounds_toArray, List.set_cons_zero, List.set_cons_succ])
      refine wpAnyH_take (i := 6) (oi := ⟨some 17, _, _, _, _, _⟩) (v := ?_) rfl (by kernel_rfl) (by kernel_rfl) (by kernel_rfl) (fun _ _ _ h => h) (Or.inl ⟨by kernel_rfl, ?_⟩) (by assumption) ?_
      rotate_left
      · (intro w hSw; (try dsimp only at hSw); go_simp; try with_reducible rfl)
      (try simp only [Act.put, List.setIfInBounds_toArray, List.set_cons_zero, List.set_cons_succ])
      refine wpAnyH_take (i := 7) (oi := ⟨some 18, _, _, _, _, _⟩) (v := ?_) rfl (by kernel_rfl) (by kernel_rfl) (by kernel_rfl) (fun _ _ _ h => h) (Or.inl ⟨by kernel_rfl, ?_⟩) (by assumption) ?_
      rotate_left
      · (intro w hSw; (try dsimp only at hSw); go_simp; try with_reducible rfl)
      (try simp only [Act.put, List.setIfInBounds_toArray, List.set_cons_zero, List.set_cons_succ])
      refine wpAnyH_take (i := 8) (oi := ⟨some 19, _, _, _, _, _⟩) (v := ?_) rfl (by kernel_rfl) (by kernel_rfl) (by kernel_rfl) (fun _ _ _ h => h) (Or.inl ⟨by kernel_rfl, ?_⟩) (by assumption) ?_
      rotate_left
      · (intro w hSw; (try dsimp only at hSw); go_simp; try with_reducible rfl)
      (try simp only [Act.put, List.setIfInBounds_toArray, List.set_cons_zero, List.set_cons_succ])
      refine wpAnyH_take (i := 9) (oi := ⟨some 20, _, _, _, _, _⟩) (v := ?_) rfl (by kernel_rfl) (by kernel_rfl) (by kernel_rfl) (fun _ _ _ h => h) (Or.inl ⟨by kernel_rfl, ?_⟩) (by assumption) ?_
      rotate_left
      · (intro w hSw; (try dsimp only at hSw); go_simp; try with_reducible rfl)
      (try simp only [Act.put, List.setIfInBounds_toArray, List.set_cons_zero, List.set_cons_succ])
      refine wpAnyH_take (i := 10) (oi := ⟨some 21, _, _, _, _, _⟩) (v := ?_) rfl (by kernel_rfl) (by kernel_rfl) (by kernel_rfl) (fun _ _ _ h => h) (Or.inl ⟨by kernel_rfl, ?_⟩) (by assumption) ?_
      rotate_left
      · (intro w hSw; (try dsimp only at hSw); go_simp; try with_reducible rfl)
      (try simp only [Act.put, List.setIfInBounds_toArray, List.set_cons_zero, List.set_cons_succ])
      refine wpAnyH_take (i := 11) (oi := ⟨some 22, _, _, _, _, _⟩) (v := ?_) rfl (by kernel_rfl) (by kernel_rfl) (by kernel_rfl) (fun _ _ _ h => h) (Or.inl ⟨by kernel_rfl, ?_⟩) (by assumption) ?_
      rotate_left
      · (intro w hSw; (try dsimp only at hSw); go_simp; try with_reducible rfl)
      (try simp only [Act.put, List.setIfInBounds_toArray, List.set_cons_zero, List.set_cons_succ])
      refine wpAnyH_take (i := 12) (oi := ⟨some 23, _, _, _, _, _⟩) (v := ?_) rfl (by kernel_rfl) (by kernel_rfl) (by kernel_rfl) (fun _ _ _ h => h) (Or.inl ⟨by kernel_rfl, ?_⟩) (by assumption) ?_
      rotate_left
      · (intro w hSw; (try dsimp only at hSw); go_simp; try with_reducible rfl)
      (try simp only [Act.put, List.setIfInBounds_toArray, List.set_cons_zero, List.set_cons_succ])
      refine wpAnyH_take (i := 13) (oi := ⟨some 24, _, _, _, _, _⟩) (v := ?_) rfl (by kernel_rfl) (by kernel_rfl) (by kernel_rfl) (fun _ _ _ h => h) (Or.inl ⟨by kernel_rfl, ?_⟩) (by assumption) ?_
      rotate_left
      · (intro w hSw; (try dsimp only at hSw); go_simp; try with_reducible rfl)
      (try simp only [Act.put, List.setIfInBounds_toArray, List.set_cons_zero, List.set_cons_succ])
      refine wpAnyH_take (i := 14) (oi := ⟨some 25, _, _, _, _, _⟩) (v := ?_) rfl (by kernel_rfl) (by kernel_rfl) (by kernel_rfl) (fun _ _ _ h => h) (Or.inl ⟨by kernel_rfl, ?_⟩) (by assumption) ?_
      rotate_left
      · (intro w hSw; (try dsimp only at hSw); go_simp; try with_reducible rfl)
      (try simp only [Act.put, List.setIfInBounds_toArray, List.set_cons_zero, List.set_cons_succ])
      refine wpAnyH_take (i := 15) (oi := ⟨some 26, _, _, _, _, _⟩) (v := ?_) rfl (by kernel_rfl) (by kernel_rfl) (by kernel_rfl) (fun _ _ _ h => h) (Or.inl ⟨by kernel_rfl, ?_⟩) (by assumption) ?_
      rotate_left
      · (intro w hSw; (try dsimp only at hSw); go_simp; try with_reducible rfl)
      (try simp only [Act.put, List.setIfInBounds_toArray, List.set_cons_zero, List.set_cons_succ])
      refine wpAnyH_take (i := 16) (oi := ⟨some 27, _, _, _, _, _⟩) (v := ?_) rfl (by kernel_rfl) (by kernel_rfl) (by kernel_rfl) (fun _ _ _ h => h) (Or.inl ⟨by kernel_rfl, ?_⟩) (by assumption) ?_
      rotate_left
      · (intro w hSw; (try dsimp only at hSw); go_simp; try with_reducible rfl)
      (try simp only [Act.put, List.setIfInBounds_toArray, List.set_cons_zero, List.set_cons_succ])
      refine wpAnyH_ready (rs := [17]) (by kernel_rfl) (by simp) ?_
      refine AllReadyH.cons (o := ⟨some 28, _, _, _, _, _⟩) rfl (fun K hK => ?_) AllReadyH.nil
      obtain ⟨wq1, N, hwN, hNe, hNl, hb1, hNb⟩ := box_any wr.drew #[.int .i64 x.c, .slice A1 x.ts.length c1, .slice A2 x.ws.length c2] 38
      have hk1 := hk0.trans (hb1.mono hk0.size)
      rw [if_pos (by kernel_rfl)]
      go_simp
      refine hK.out _ _ ?_ (fun hHeld => ?_)
      · exact HS3.out _ hk1
      clear hK K
      (try simp only [Act.put, List.setIfInBounds_toArray, List.set_cons_zero, List.set_cons_succ])
      clear hwN
      refine wpAnyH_ready (rs := [18]) (by kernel_rfl) (by simp) ?_
      refine AllReadyH.cons (o := ⟨some 29, _, _, _, _, _⟩) rfl (fun K hK => ?_) AllReadyH.nil
      have hrr : TbIn (fun b => True ∧ u3.ownBlock ≠ some b) wq1 ((A1, c1), (A2, c2), x) := HTB.out _ hk1
      obtain ⟨v6, w6, hrun, hrow6, hb6, hk6, hat6⟩ := app_tb wq1 w.heap.size (fun _ => True) u3 ls ((A1, c1), (A2, c2), x) N (HRW.out.keep hk1) hNb hrr hle (Nat.le_trans HBW.out.size hk1.size)
      have lP3 : b < wq1.heap.size := Nat.lt_of_lt_of_le (Nat.lt_of_lt_of_le hbl HBW.out.size) hk1.size
      refine step_append_run16 rfl _ _ 28 28 rfl _ _ (by simp [Act.eval, Act.put]) (by simp [Act.eval, Act.put]) hrun ?_
      refine hK.out _ _ ?_ (fun hHeld => ?_)
      · exact ⟨(World.cell?_of_block (hk6 b lP3 hbn)).trans (HS3.out _ hk1).1, (World.cell?_of_block (hk6 b lP3 hbn)).trans (HS3.out _ hk1).2.1, (World.cell?_of_block (hk6 b lP3 hbn)).trans (HS3.out _ hk1).2.2⟩
      clear hK K
      (try simp only [Act.put, List.setIfInBounds_toArray, List.set_cons_zero, List.set_cons_succ])
      refine wpAnyH_take (i := 19) (oi := ⟨some 3, _, _, _, _, _⟩) (v := ?_) rfl (by kernel_rfl) (by kernel_rfl) (by kernel_rfl) (fun _ _ _ h => h) (Or.inl ⟨by kernel_rfl, ?_⟩) (by assumption) ?_
      rotate_left
      · (intro w hSw; (try dsimp only at hSw); go_simp; try with_reducible rfl)
      (try simp only [Act.put, List.setIfInBounds_toArray, List.set_cons_zero, List.set_cons_succ])
      refine wpAnyH_done (by kernel_rfl) ?_ _
      have HB6 := Lib.hid (HBW.out.trans ((hk1.mono HBW.out.size).trans hb6))
      have HT6 : Hid (tbsR (ls ++ [((A1, c1), (A2, c2), x)]) = l.take (i + 1)) := Lib.hid (by rw [tbsR_snoc, HLS.out, List.take_add_one, HX.out]; rfl)
      have HR6 := Lib.hid hrow6
      clear hHeld
      go_wp2_with fail
      go_roundg (n - (i + 1))
      case measure => have := HGI.out; omega
      case rel => exact ⟨i + 1, _, by omega, rfl, by go_num, HB6.out, HT6.out, HR6.out⟩
    · have hiz : ¬ (i : Int) < (n : Int) := by omega
      have HE : Hid (tbsR ls = l) := Lib.hid (by rw [HLS.out, List.take_of_length_le (by rw [HN.out]; omega)])
      have HF := Lib.hid (tabs_of_own HRW.out)
      rw [HE.out] at HF
      go_wp2_with fail
      go_ret
      exact ⟨_, rfl, HF.out, HBW.out⟩
end Go.Proofs.Ytpjmdnhoiobedaa

/-
  Joining a right plan's own tables makes that plan.
  Conditions: none.
-/
set_option linter.unusedVariables false
set_option linter.unusedSimpArgs false
namespace Go.Proofs.Ytpjmdnhoiobedaa
open Go.RowKit

/-! ### The cores -/
theorem cores_fold : ∀ (cs : List Int) (M : Nat), (∀ c ∈ cs, 0 ≤ c ∧ c < 16) → (cs.map fun c => (c, ())).foldl (fun M p => M ||| (ofI [p.1] % 4294967296)) M = cs.foldl withI M
  | [], _, _ => rfl
  | c :: cs, M, h => by
    have hc := h c (List.mem_cons_self ..)
    obtain ⟨q, rfl⟩ := Int.eq_ofNat_of_zero_le hc.1
    have e : M ||| (ofI [(q : Int)] % 4294967296) = withI M (q : Int) := by
      show M ||| (withI 0 (q : Int) % 4294967296) = _
      rw [withI_nat (by omega), withI_nat (by omega)]
      apply Nat.eq_of_testBit_eq
      intro j
      have h32 : (withN 0 q % 4294967296).testBit j = (decide (j < 32) && (withN 0 q).testBit j) := Nat.testBit_mod_two_pow (withN 0 q) 32 j
      rw [Nat.testBit_or, h32, withN_bit, withN_bit, Nat.zero_testBit]
      by_cases e : q = j
      · subst e
        have : q < 32 := by omega
        simp [this]
      · simp [e]
    rw [List.map_cons, List.foldl_cons, List.foldl_cons, e]
    exact cores_fold cs _ fun d hd => h d (List.mem_cons_of_mem _ hd)
theorem cores_right {n m : Nat} {l : List Pl} (hm : m < 65536) : coresT (tabsOf n m l) = m := by
  have h1 := cores_fold (ticksI m 16) 0 fun c hc => by
    obtain ⟨q, rfl, hq, _⟩ := core_of hc
    omega
  have h2 : (ticksI m 16).foldl withI 0 = m := by
    rw [← ticks_16 hm]
    exact of_ticks (by omega)
  rw [h2] at h1
  unfold coresT tabsOf
  rw [List.foldl_map] at h1 ⊢
  exact h1

/-! ### A row's ticks -/
def pcK (c : Int) (M : Nat) : List Pc := if M = 0 then [] else [⟨c, M⟩]
theorem withN_ne (M k : Nat) : withN M k ≠ 0 := fun e => by
  have h := withN_bit M k k
  rw [e, Nat.zero_testBit] at h
  simp at h
theorem wid_pc {A : List Pc} {c : Int} {M k : Nat} (hA : ∀ y ∈ A, y.c ≠ c) (hk : k < 64) : widP (A ++ pcK c M) c (ofI [(k : Int)]) = A ++ pcK c (withN M k) := by
  have hK : ofI [(k : Int)] = withN 0 k := by
    show withI 0 (k : Int) = _
    exact withI_nat hk
  rw [hK]
  unfold pcK
  rw [if_neg (withN_ne M k)]
  by_cases hM : M = 0
  · subst hM
    rw [if_pos rfl, List.append_nil]
    rcases List.eq_nil_or_concat A with rfl | ⟨B, y, rfl⟩
    · rfl
    · rw [List.concat_eq_append] at hA ⊢
      unfold widP
      rw [List.getLast?_append, List.getLast?_singleton]
      show (if y.c = c then _ else _) = _
      rw [if_neg (hA y (by simp))]
  · rw [if_neg hM]
    have h1 := widP_same A ⟨c, M⟩ (withN 0 k)
    rw [h1]
    have e : M ||| withN 0 k = withN M k := by
      apply Nat.eq_of_testBit_eq
      intro j
      rw [Nat.testBit_or, withN_bit, withN_bit, Nat.zero_testBit]
      by_cases e : k = j
      · subst e; simp
      · simp [e]
    show A ++ [⟨c, M ||| withN 0 k⟩] = _
    rw [e]
def mkT (F : Nat → Int) (q : Int) (k : Nat) : Nat := setT (fun t => decide (F t = q)) k
def noT (F : Nat → Int) (q : Int) (k : Nat) : Nat := sumTo (fun t => if F t = q then 1 else 0) k
/-- What a row's ticks make of the places. -/
structure RowIs (c : Int) (F : Nat → Int) (k : Nat) (S S' : Spl) : Prop where
  ps : ∀ q, q ≠ 0 → (S'.2 q).ps = (S.2 q).ps ++ pcK c (mkT F q k)
  s : ∀ q, q ≠ 0 → (S'.2 q).s = (S.2 q).s + (noT F q k : Nat)
  c0 : ∀ q, q ≠ 0 → (S'.2 q).c = (S.2 q).c
  mem : ∀ q, q ∈ S'.1 ↔ q ∈ S.1 ∨ (q ≠ 0 ∧ ∃ t, t < k ∧ F t = q)
theorem rowN_succ (k : Nat) (F : Nat → Int) : rowN (k + 1) F = rowN k F ++ [F k] := by
  unfold rowN
  rw [List.range_succ, List.map_append, List.map_singleton]
theorem row_is {c : Int} {F : Nat → Int} {S : Spl} (hno : ∀ q, q ≠ 0 → ∀ y ∈ (S.2 q).ps, y.c ≠ c) : ∀ k, k ≤ 64 → RowIs c F k S (rowSp c 0 (rowN k F) S)
  | 0, _ => ⟨fun q _ => by simp [mkT, setT, pcK, rowN, rowSp], fun q _ => by simp [noT, sumTo, rowN, rowSp], fun _ _ => rfl, fun q => ⟨fun h => .inl h, fun h => h.elim id fun h => by obtain ⟨_, t, ht, _⟩ := h; omega⟩⟩
  | k + 1, hk => by
    have ih := row_is hno (F := F) k (by omega)
    rw [rowN_succ, rowSp_snoc, rowN_length, Nat.zero_add]
    generalize rowSp c 0 (rowN k F) S = S' at ih
    obtain ⟨u, hu⟩ : ∃ u, F k = u := ⟨_, rfl⟩
    have hmk : ∀ q, mkT F q (k + 1) = if u = q then withN (mkT F q k) k else mkT F q k := fun q => by
      unfold mkT
      rw [setT, hu]
      by_cases e : u = q <;> simp [e]
    have hnt : ∀ q, noT F q (k + 1) = noT F q k + if u = q then 1 else 0 := fun q => by
      unfold noT
      rw [sumTo, hu]
    rw [hu]
    unfold tickS
    by_cases e0 : u = 0
    · rw [if_pos e0]
      refine ⟨fun q hq => ?_, fun q hq => ?_, ih.c0, fun q => ?_⟩
      · rw [hmk, if_neg (by rw [e0]; exact Ne.symm hq)]; exact ih.ps q hq
      · rw [hnt, if_neg (by rw [e0]; exact Ne.symm hq)]; exact ih.s q hq
      · rw [ih.mem]
        constructor
        · rintro (h | ⟨h0, t, ht, e⟩)
          · exact .inl h
          · exact .inr ⟨h0, t, by omega, e⟩
        · rintro (h | ⟨h0, t, ht, e⟩)
          · exact .inl h
          · refine .inr ⟨h0, t, ?_, e⟩
            rcases Nat.lt_or_ge t k with h | h
            · exact h
            · have : t = k := by omega
              subst this
              rw [hu, e0] at e
              exact absurd e.symm h0
    · rw [if_neg e0]
      have h2 : ∀ q, (stepS c (k : Int) S' u).2 q = if q = u then widT (S'.2 u) u c (ofI [(k : Int)]) else S'.2 q := fun _ => rfl
      refine ⟨fun q hq => ?_, fun q hq => ?_, fun q hq => ?_, fun q => ?_⟩
      · rw [h2, hmk]
        by_cases e : q = u
        · subst e
          rw [if_pos rfl, if_pos rfl]
          show widP (S'.2 q).ps c _ = _
          rw [ih.ps q hq]
          exact wid_pc (hno q hq) (by omega)
        · rw [if_neg e, if_neg (Ne.symm e)]; exact ih.ps q hq
      · rw [h2, hnt]
        by_cases e : q = u
        · subst e
          rw [if_pos rfl, if_pos rfl]
          show (S'.2 q).s + 1 = _
          rw [ih.s q hq]
          omega
        · rw [if_neg e, if_neg (Ne.symm e)]; exact ih.s q hq
      · rw [h2]
        by_cases e : q = u
        · subst e
          rw [if_pos rfl]
          exact ih.c0 q hq
        · rw [if_neg e]; exact ih.c0 q hq
      · have h1 : q ∈ (stepS c (k : Int) S' u).1 ↔ q ∈ S'.1 ∨ q = u := by
          show q ∈ (if u ∈ S'.1 then S'.1 else S'.1 ++ [u]) ↔ _
          by_cases hm : u ∈ S'.1
          · rw [if_pos hm]
            exact ⟨.inl, fun h => h.elim id fun h => h ▸ hm⟩
          · rw [if_neg hm]; simp
        rw [h1, ih.mem]
        constructor
        · rintro ((h | ⟨h0, t, ht, e⟩) | rfl)
          · exact .inl h
          · exact .inr ⟨h0, t, by omega, e⟩
          · exact .inr ⟨e0, k, by omega, hu⟩
        · rintro (h | ⟨h0, t, ht, e⟩)
          · exact .inl (.inl h)
          · rcases Nat.lt_or_ge t k with h | h
            · exact .inl (.inr ⟨h0, t, h, e⟩)
            · have : t = k := by omega
              subst this
              exact .inr (by rw [← e, hu])

/-! ### All rows -/
structure AllIs (n : Nat) (p : List Pl) (cs : List Int) (S : Spl) : Prop where
  ps : ∀ q, q ≠ 0 → (S.2 q).ps = cs.flatMap fun c => pcK c (mkT (ownF p c) q n)
  s : ∀ q, q ≠ 0 → (S.2 q).s = ((cs.map fun c => noT (ownF p c) q n).sum : Nat)
  c0 : ∀ q, q ≠ 0 → (S.2 q).c = 0
  mem : ∀ q, q ∈ S.1 ↔ q ≠ 0 ∧ ∃ c ∈ cs, ∃ t, t < n ∧ ownF p c t = q
theorem pcK_mem {c : Int} {M : Nat} {y : Pc} (h : y ∈ pcK c M) : y.c = c := by
  unfold pcK at h
  split at h
  · cases h
  · rw [List.mem_singleton.1 h]
theorem all_is {n : Nat} (p : List Pl) (hn : n ≤ 64) {cs : List Int} (hc : cs.Pairwise (· < ·)) : ∀ k, k ≤ cs.length → AllIs n p (cs.take k) (splT ((cs.take k).map (tabOf n p)))
  | 0, _ => ⟨fun q _ => rfl, fun q _ => rfl, fun q _ => rfl, fun q => ⟨fun h => (by cases h), fun h => by obtain ⟨_, c, hc, _⟩ := h; simp at hc⟩⟩
  | k + 1, hk => by
    have ih := all_is p hn hc k (by omega)
    obtain ⟨c, hcc⟩ : ∃ c, cs[k]? = some c := ⟨_, List.getElem?_eq_getElem (by omega)⟩
    have e : cs.take (k + 1) = cs.take k ++ [c] := by rw [List.take_add_one, hcc]; rfl
    have hlt : ∀ d ∈ cs.take k, d < c := fun d hd => by
      rw [List.pairwise_iff_getElem] at hc
      rw [List.mem_take_iff_getElem] at hd
      obtain ⟨i, hi, rfl⟩ := hd
      obtain ⟨h1, rfl⟩ := List.getElem?_eq_some_iff.1 hcc
      exact hc i k (by omega) h1 (by omega)
    rw [e, List.map_append, List.map_singleton]
    have e2 : splT ((cs.take k).map (tabOf n p) ++ [tabOf n p c]) = rowSp c 0 (rowN n (ownF p c)) (splT ((cs.take k).map (tabOf n p))) := splS_snoc _ _ _
    rw [e2]
    generalize splT ((cs.take k).map (tabOf n p)) = S at ih
    have hr := row_is (c := c) (F := ownF p c) (S := S) (fun q hq y hy => by
      rw [ih.ps q hq] at hy
      obtain ⟨d, hd, hy⟩ := List.mem_flatMap.1 hy
      rw [pcK_mem hy]
      have := hlt d hd
      omega) n hn
    refine ⟨fun q hq => ?_, fun q hq => ?_, fun q hq => ?_, fun q => ?_⟩
    · rw [hr.ps q hq, ih.ps q hq, List.flatMap_append, List.flatMap_singleton]
    · rw [hr.s q hq, ih.s q hq, List.map_append, List.sum_append, List.map_singleton]
      simp
    · rw [hr.c0 q hq, ih.c0 q hq]
    · rw [hr.mem, ih.mem]
      constructor
      · rintro (⟨h0, d, hd, t, ht, e⟩ | ⟨h0, t, ht, e⟩)
        · exact ⟨h0, d, by simp [hd], t, ht, e⟩
        · exact ⟨h0, c, by simp, t, ht, e⟩
      · rintro ⟨h0, d, hd, t, ht, e⟩
        rcases List.mem_append.1 hd with hd | hd
        · exact .inl ⟨h0, d, hd, t, ht, e⟩
        · rw [List.mem_singleton.1 hd] at e
          exact .inr ⟨h0, t, ht, e⟩
theorem cores_rise (m : Nat) : (ticksI m 16).Pairwise (· < ·) := by
  unfold ticksI
  rw [List.pairwise_map]
  have h : (ticksT m 16).Pairwise (· < ·) := (List.pairwise_lt_range).filter _
  exact h.imp fun h => by omega
theorem all_right (n m : Nat) (p : List Pl) (hn : n ≤ 64) : AllIs n p (ticksI m 16) (splT (tabsOf n m p)) := by
  have h := all_is p hn (cores_rise m) (ticksI m 16).length (Nat.le_refl _)
  rw [List.take_of_length_le (Nat.le_refl _)] at h
  exact h

/-! ### A list by its cores -/
theorem split_first {c : Int} : ∀ ps : List Pc, ps.Pairwise (fun a b => a.c < b.c) → (∀ y ∈ ps, c ≤ y.c) → ps = ps.filter (fun y => decide (y.c = c)) ++ ps.filter (fun y => !decide (y.c = c))
  | [], _, _ => rfl
  | y :: r, h, hm => by
    rw [List.pairwise_cons] at h
    by_cases e : y.c = c
    · rw [List.filter_cons_of_pos (by simp [e]), List.filter_cons_of_neg (by simp [e]), List.cons_append, ← split_first r h.2 fun z hz => hm z (List.mem_cons_of_mem _ hz)]
    · have hy := hm y (List.mem_cons_self ..)
      have h0 : (y :: r).filter (fun y => decide (y.c = c)) = [] := by
        rw [List.filter_eq_nil_iff]
        intro z hz
        rcases List.mem_cons.1 hz with rfl | hz
        · simp [e]
        · have := h.1 z hz
          simp
          omega
      have h1 : (y :: r).filter (fun y => !decide (y.c = c)) = y :: r := by
        rw [List.filter_eq_self]
        intro z hz
        rcases List.mem_cons.1 hz with rfl | hz
        · simp [e]
        · have := h.1 z hz
          simp
          omega
      rw [h0, h1, List.nil_append]
theorem by_cores : ∀ (cs : List Int) (ps : List Pc), cs.Pairwise (· < ·) → ps.Pairwise (fun a b => a.c < b.c) → (∀ y ∈ ps, y.c ∈ cs) → ps = cs.flatMap fun c => ps.filter fun y => decide (y.c = c)
  | [], ps, _, _, h => by
    cases ps with
    | nil => rfl
    | cons y r => exact absurd (h y (List.mem_cons_self ..)) (by simp)
  | c :: cs, ps, hc, hp, h => by
    rw [List.pairwise_cons] at hc
    have hm : ∀ y ∈ ps, c ≤ y.c := fun y hy => by
      rcases List.mem_cons.1 (h y hy) with e | e
      · omega
      · have := hc.1 _ e; omega
    have h1 := split_first ps hp hm
    have h2 := by_cores cs (ps.filter fun y => !decide (y.c = c)) hc.2 (hp.filter _) fun y hy => by
      obtain ⟨hy, hn⟩ := List.mem_filter.1 hy
      rcases List.mem_cons.1 (h y hy) with e | e
      · simp [e] at hn
      · exact e
    rw [List.flatMap_cons]
    have h3 : (cs.flatMap fun d => ps.filter fun y => decide (y.c = d)) = cs.flatMap fun d => (ps.filter fun y => !decide (y.c = c)).filter fun y => decide (y.c = d) := by
      have : ∀ d ∈ cs, (ps.filter fun y => decide (y.c = d)) = (ps.filter fun y => !decide (y.c = c)).filter fun y => decide (y.c = d) := fun d hd => by
        rw [List.filter_filter]
        refine List.filter_congr fun y _ => ?_
        have := hc.1 d hd
        by_cases e : y.c = d
        · have : y.c ≠ c := by omega
          simp [e, this]
          omega
        · simp [e]
      rw [List.flatMap_def, List.flatMap_def, List.map_congr_left this]
    rw [h3, ← h2]
    exact h1
theorem pick_one {c : Int} : ∀ {ps : List Pc} {y : Pc}, ps.Pairwise (fun a b => a.c < b.c) → y ∈ ps → y.c = c → ps.filter (fun y => decide (y.c = c)) = [y]
  | [], y, _, h, _ => by cases h
  | z :: r, y, hp, h, e => by
    rw [List.pairwise_cons] at hp
    rcases List.mem_cons.1 h with rfl | h
    · rw [List.filter_cons_of_pos (by simp [e])]
      have : r.filter (fun y => decide (y.c = c)) = [] := by
        rw [List.filter_eq_nil_iff]
        intro z hz
        have := hp.1 z hz
        simp
        omega
      rw [this]
    · have := hp.1 y h
      rw [List.filter_cons_of_neg (by simp; omega)]
      exact pick_one hp.2 h e
theorem rise_pair {m : Nat} : ∀ (ps : List Pc) (last : Int), Rise m last ps → ps.Pairwise (fun a b => a.c < b.c) ∧ ∀ y ∈ ps, last < y.c ∧ y.t ≠ 0
  | [], _, _ => ⟨List.Pairwise.nil, fun y hy => by cases hy⟩
  | y :: r, last, h => by
    obtain ⟨_, h1, h2, h3⟩ := h
    obtain ⟨g1, g2⟩ := rise_pair r y.c h3
    refine ⟨List.pairwise_cons.2 ⟨fun z hz => (g2 z hz).1, g1⟩, fun z hz => ?_⟩
    rcases List.mem_cons.1 hz with rfl | hz
    · exact ⟨h1, h2⟩
    · have := (g2 z hz).1
      exact ⟨by omega, (g2 z hz).2⟩
theorem sum_rows (G : Int → Nat → Int) (q : Int) (n : Nat) : ∀ cs : List Int, (cs.map fun c => noT (G c) q n).sum = sumTo (fun t => cs.countP fun c => decide (G c t = q)) n
  | [] => (sumTo_zero (f := fun t => List.countP (fun c => decide (G c t = q)) []) (k := n) fun _ _ => rfl).symm
  | c :: cs => by
    rw [List.map_cons, List.sum_cons, sum_rows G q n cs]
    unfold noT
    rw [← sumTo_add]
    refine sumTo_congr fun t _ => ?_
    rw [List.countP_cons]
    by_cases e : G c t = q <;> simp [e] <;> omega

/-! ### Of a right plan -/
section
variable {n m : Nat} {p : List Pl}
theorem own_iff (hR : Right n m p) {x : Pl} (hx : x ∈ p) {c : Int} (hc : c ∈ ticksI m 16) {t : Nat} (ht : t < 64) : ownF p c t = x.u ↔ 0 < nOn x.ps c t := by
  obtain ⟨q, rfl, hq, _⟩ := core_of hc
  constructor
  · intro e
    have hu := unit_pos hR hx
    obtain ⟨y, hy, hyu, hy0⟩ := own_some (show ownF p (q : Int) t ≠ 0 by omega)
    rw [e] at hyu
    rw [hR.unit_eq hx hy hyu]
    exact hy0
  · exact own_is (hR.apart q hq t ht) hx
theorem spl_ps (hR : Right n m p) (ho : ∀ x ∈ p, PlOk x) {x : Pl} (hx : x ∈ p) (hn : x.ps ≠ []) : ((ticksI m 16).flatMap fun c => pcK c (mkT (ownF p c) x.u n)) = x.ps := by
  have hs := (hR.place x hx).split hn
  have h64 := hR.f64
  obtain ⟨hp, hp2⟩ := rise_pair _ _ hs.rise
  have h1 := by_cores (ticksI m 16) x.ps (cores_rise m) hp fun y hy => core_in (rise_has hs.rise y hy)
  refine Eq.trans ?_ h1.symm
  have key : ∀ c ∈ ticksI m 16, pcK c (mkT (ownF p c) x.u n) = x.ps.filter fun y => decide (y.c = c) := fun c hc => by
    have hbit : ∀ t, (mkT (ownF p c) x.u n).testBit t = (decide (t < n) && decide (ownF p c t = x.u)) := fun t => setT_bit _ _ _
    by_cases hy : ∃ y ∈ x.ps, y.c = c
    · obtain ⟨y, hy, hyc⟩ := hy
      rw [pick_one hp hy hyc]
      have e : mkT (ownF p c) x.u n = y.t := by
        apply Nat.eq_of_testBit_eq
        intro t
        rw [hbit]
        cases hb : y.t.testBit t with
        | true =>
          have ht : t < 64 := by
            rcases Nat.lt_or_ge t 64 with h | h
            · exact h
            · have h2 := (ho x hx).2.2.2 y hy
              have h3 : y.t < 2 ^ t := Nat.lt_of_lt_of_le (show y.t < 2 ^ 64 from h2.2) (Nat.pow_le_pow_right (by decide) h)
              rw [Nat.testBit_lt_two_pow h3] at hb
              cases hb
          have h2 := (hs.kept t ht).2 (nAny_pos.2 ⟨y, hy, hb⟩)
          rw [decide_eq_true (show t < n by omega), decide_eq_true ((own_iff hR hx hc ht).2 (nOn_pos.2 ⟨y, hy, hyc, hb⟩))]
          rfl
        | false =>
          rw [Bool.and_eq_false_iff]
          rcases Nat.lt_or_ge t n with h | h
          · refine .inr (decide_eq_false fun e => ?_)
            obtain ⟨z, hz, hzc, hzb⟩ := nOn_pos.1 ((own_iff hR hx hc (by omega)).1 e)
            have h2 := pick_one hp hz hzc
            rw [pick_one hp hy hyc] at h2
            injection h2 with h2 _
            rw [h2, hzb] at hb
            cases hb
          · exact .inl (decide_eq_false (by omega))
      rw [e]
      unfold pcK
      rw [if_neg (hp2 y hy).2, ← hyc]
    · have e : mkT (ownF p c) x.u n = 0 := by
        apply Nat.eq_of_testBit_eq
        intro t
        rw [hbit, Nat.zero_testBit, Bool.and_eq_false_iff]
        rcases Nat.lt_or_ge t n with h | h
        · refine .inr (decide_eq_false fun e => ?_)
          obtain ⟨z, hz, hzc, _⟩ := nOn_pos.1 ((own_iff hR hx hc (by omega)).1 e)
          exact hy ⟨z, hz, hzc⟩
        · exact .inl (decide_eq_false (by omega))
      rw [e]
      unfold pcK
      rw [if_pos rfl]
      symm
      rw [List.filter_eq_nil_iff]
      intro y hyy
      simp
      exact fun e => hy ⟨y, hyy, e⟩
  rw [List.flatMap_def, List.flatMap_def, List.map_congr_left key]
theorem spl_share (hR : Right n m p) {x : Pl} (hx : x ∈ p) (hn : x.ps ≠ []) : ((((ticksI m 16).map fun c => noT (ownF p c) x.u n).sum : Nat) : Int) = x.s := by
  have hs := (hR.place x hx).split hn
  have h64 := hR.f64
  have h1 := got_all hR hx
  rw [if_neg (by intro h; exact hn (List.eq_nil_of_length_eq_zero h))] at h1
  rw [sum_rows (fun c => ownF p c)]
  rw [← h1]
  congr 1
  refine sumTo_congr fun t ht => ?_
  rw [busy_cnt hR hx ht, ← cores_any_cnt (hs.kept t (by omega)).1 fun y hy => rise_has hs.rise y hy]
  refine List.countP_congr fun c hc => ?_
  rw [decide_eq_true_eq, decide_eq_true_eq]
  exact own_iff hR hx hc (by omega)
theorem spl_there (hR : Right n m p) {x : Pl} (hx : x ∈ p) (hn : x.ps ≠ []) : ∃ c ∈ ticksI m 16, ∃ t, t < n ∧ ownF p c t = x.u := by
  have hs := (hR.place x hx).split hn
  have hu := unit_pos hR hx
  have h1 := spl_share hR hx hn
  have h2 := (hR.place x hx).s1
  apply Classical.byContradiction
  intro hno
  have h3 : ((ticksI m 16).map fun c => noT (ownF p c) x.u n).sum = 0 := by
    rw [sum_rows (fun c => ownF p c)]
    refine sumTo_zero fun t ht => ?_
    rw [List.countP_eq_zero]
    intro c hc
    rw [decide_eq_true_eq]
    exact fun e => hno ⟨c, hc, t, ht, e⟩
  rw [h3] at h1
  omega
theorem spl_right (hR : Right n m p) (ho : ∀ x ∈ p, PlOk x) (hto : TsOk (tabsOf n m p)) {x : Pl} (hx : x ∈ p) (hn : x.ps ≠ []) : x.u ∈ (splT (tabsOf n m p)).1 ∧ (splT (tabsOf n m p)).2 x.u = x := by
  have h64 := hR.f64
  have ha := all_right n m p (by omega)
  have hu := unit_pos hR hx
  have hu0 : x.u ≠ 0 := by omega
  have hm : x.u ∈ (splT (tabsOf n m p)).1 := (ha.mem _).2 ⟨hu0, spl_there hR hx hn⟩
  refine ⟨hm, ?_⟩
  have hb := splT_b hto 0 (tabsOf n m p).length (Nat.le_refl _)
  rw [List.take_of_length_le (Nat.le_refl _)] at hb
  have h1 := hb.unit _ hm
  have h2 := ha.ps _ hu0
  have h3 := ha.s _ hu0
  have h4 := ha.c0 _ hu0
  rw [spl_ps hR ho hx hn] at h2
  rw [spl_share hR hx hn] at h3
  have h5 := ((hR.place x hx).split hn).core
  generalize (splT (tabsOf n m p)).2 x.u = z at h1 h2 h3 h4
  obtain ⟨zu, zs, zc, zp⟩ := z
  obtain ⟨xu, xs, xc, xp⟩ := x
  simp only at h1 h2 h3 h4 h5
  rw [h1, h2, h3, h4, h5]
theorem spl_back (hR : Right n m p) {q : Int} (h : q ∈ (splT (tabsOf n m p)).1) : ∃ x ∈ p, x.u = q ∧ x.ps ≠ [] := by
  have h64 := hR.f64
  have ha := all_right n m p (by omega)
  obtain ⟨h0, c, hc, t, ht, e⟩ := (ha.mem q).1 h
  obtain ⟨y, hy, hyu, hy0⟩ := own_some (show ownF p c t ≠ 0 by rw [e]; exact h0)
  refine ⟨y, hy, by rw [← hyu, e], fun hn => ?_⟩
  rw [hn] at hy0
  exact absurd hy0 (Nat.lt_irrefl 0)

/-! ### The places of a right plan's tables -/
theorem whole_eq (c : Int) (l : List Pl) : (wholesT l c).map (wholeP (tabOf n l c)) = l.filter (wholeB c) := by
  unfold wholesT
  rw [List.map_map]
  have : ∀ x ∈ l.filter (wholeB c), (wholeP (tabOf n l c) ∘ fun x => (x.u, x.s)) x = id x := fun x hx => by
    obtain ⟨_, hb⟩ := List.mem_filter.1 hx
    unfold wholeB at hb
    simp at hb
    obtain ⟨xu, xs, xc, xp⟩ := x
    simp only at hb
    obtain ⟨h1, h2⟩ := hb
    subst h1 h2
    rfl
  rw [List.map_congr_left this, List.map_id]
theorem wholes_eq (n m : Nat) (p : List Pl) : wholesA (tabsOf n m p) = (ticksI m 16).flatMap fun c => p.filter (wholeB c) := by
  unfold wholesA tabsOf
  rw [List.flatMap_map]
  have : ∀ c ∈ ticksI m 16, ((tabOf n p c).ws.map (wholeP (tabOf n p c))) = p.filter (wholeB c) := fun c _ => whole_eq c p
  rw [List.flatMap_def, List.flatMap_def, List.map_congr_left this]
theorem flat_nodup {p : List Pl} (hp : p.Nodup) : ∀ {cs : List Int}, cs.Nodup → (cs.flatMap fun c => p.filter (wholeB c)).Nodup
  | [], _ => List.nodup_nil
  | c :: cs, h => by
    rw [List.nodup_cons] at h
    rw [List.flatMap_cons, List.nodup_append]
    refine ⟨hp.filter _, flat_nodup hp h.2, fun a ha b hb e => ?_⟩
    subst e
    obtain ⟨d, hd, hb⟩ := List.mem_flatMap.1 hb
    have h1 := (List.mem_filter.1 ha).2
    have h2 := (List.mem_filter.1 hb).2
    unfold wholeB at h1 h2
    simp at h1 h2
    have : c = d := h1.2.symm.trans h2.2
    exact h.1 (this ▸ hd)
theorem rise_lt (hR : Right n m p) : p.Pairwise fun a b => a.u < b.u := by
  rw [List.pairwise_iff_getElem]
  intro i j hi hj hij
  obtain ⟨d, rfl⟩ : ∃ d, j = i + d + 1 := ⟨j - i - 1, by omega⟩
  exact hR.rises d i _ _ (List.getElem?_eq_getElem hi) (List.getElem?_eq_getElem hj)
theorem sorted_eq : ∀ {p L : List Pl}, p.Pairwise (fun a b => a.u < b.u) → L.Pairwise (fun a b => a.u ≤ b.u) → L.Perm p → L = p
  | [], L, _, _, h => h.eq_nil
  | x :: p, [], _, _, h => by have := h.length_eq; simp at this
  | x :: p, y :: L, hp, hL, h => by
    have hp0 := hp
    rw [List.pairwise_cons] at hp hL
    have e : y = x := by
      have hy : y ∈ x :: p := h.mem_iff.1 (List.mem_cons_self ..)
      have hx : x ∈ y :: L := h.mem_iff.2 (List.mem_cons_self ..)
      rcases List.mem_cons.1 hy with e | hy
      · exact e
      · have h1 := hp.1 y hy
        rcases List.mem_cons.1 hx with e | hx
        · exact e.symm
        · have := hL.1 x hx
          omega
    subst e
    rw [sorted_eq hp.2 hL.2 ((List.perm_cons y).1 h)]
theorem joins_right (hR : Right n m p) (ho : ∀ x ∈ p, PlOk x) (hto : TsOk (tabsOf n m p)) {L : List Pl} (h : Joins (tabsOf n m p) L) : coresT (tabsOf n m p) = m ∧ L = p := by
  refine ⟨cores_right hR.m16, sorted_eq (rise_lt hR) h.rise (h.perm.trans ?_)⟩
  have hpn : p.Nodup := (rise_lt hR).imp fun h e => by rw [e] at h; omega
  have hb := splT_b hto 0 (tabsOf n m p).length (Nat.le_refl _)
  rw [List.take_of_length_le (Nat.le_refl _)] at hb
  have hst : ∀ q ∈ (splT (tabsOf n m p)).1, (splT (tabsOf n m p)).2 q ∈ p ∧ ((splT (tabsOf n m p)).2 q).ps ≠ [] := fun q hq => by
    obtain ⟨x, hx, rfl, hn⟩ := spl_back hR hq
    rw [(spl_right hR ho hto hx hn).2]
    exact ⟨hx, hn⟩
  rw [wholes_eq]
  refine (List.perm_ext_iff_of_nodup ?_ hpn).2 fun x => ?_
  · rw [List.nodup_append]
    refine ⟨flat_nodup hpn (cores_nodup m), ?_, fun a ha b hb2 e => ?_⟩
    · rw [List.Nodup, List.pairwise_map, List.pairwise_iff_getElem]
      intro i j hi hj hij e
      have h1 := hb.unit _ (List.getElem_mem hi)
      have h2 := hb.unit _ (List.getElem_mem hj)
      rw [e, h2] at h1
      have h3 := hb.nodup
      rw [List.Nodup, List.pairwise_iff_getElem] at h3
      exact h3 i j hi hj hij h1.symm
    · subst e
      obtain ⟨c, _, ha⟩ := List.mem_flatMap.1 ha
      have h1 := (List.mem_filter.1 ha).2
      obtain ⟨q, hq, rfl⟩ := List.mem_map.1 hb2
      unfold wholeB at h1
      simp at h1
      exact (hst q hq).2 h1.1
  · rw [List.mem_append]
    constructor
    · rintro (h1 | h1)
      · obtain ⟨c, _, ha⟩ := List.mem_flatMap.1 h1
        exact (List.mem_filter.1 ha).1
      · obtain ⟨q, hq, rfl⟩ := List.mem_map.1 h1
        exact (hst q hq).1
    · intro hx
      by_cases hn : x.ps = []
      · refine .inl (List.mem_flatMap.2 ⟨x.c, core_in ((hR.place x hx).whole hn), List.mem_filter.2 ⟨hx, ?_⟩⟩)
        unfold wholeB
        simp [hn]
      · obtain ⟨h1, h2⟩ := spl_right hR ho hto hx hn
        exact .inr (List.mem_map.2 ⟨x.u, h1, h2⟩)
end
end Go.Proofs.Ytpjmdnhoiobedaa

/-
  An argument that is a slice of tables, opened: each table's ticks and wants; they are no more than the reading's bulk.
  Conditions: the reading itself; its bulk is bounded.
-/
set_option linter.unusedVariables false
set_option linter.unusedSimpArgs false
namespace Go.Proofs.Ytpjmdnhoiobedaa
open Go.ChangeShapes Go.WideShapes Go.RowKit Go.Deep

theorem Try.cellsInts : Try.prog.cellsOf 35 = 1 := by kernel_rfl
theorem Try.cellsWant : Try.prog.cellsOf 58 = 2 := by kernel_rfl
theorem Try.cellsWants : Try.prog.cellsOf 36 = 1 := by kernel_rfl
theorem Try.cellsTr : Try.prog.cellsOf 39 = 3 := by kernel_rfl

/-! ### Bulk -/
section
variable {H : Type}
theorem bulk_pos (d : DataW H) : 1 ≤ Rows.uptoBulk d := by
  cases d with
  | lit l => cases l <;> simp [Rows.uptoBulk]
  | _ => simp [Rows.uptoBulk]
theorem bulk_len : ∀ l : List (DataW H), l.length ≤ Rows.uptoBulkAll l
  | [] => Nat.zero_le _
  | x :: r => by
    have h1 := bulk_pos x
    have h2 := bulk_len r
    simp only [Rows.uptoBulkAll, List.length_cons]
    omega
theorem bulk_elems (elems spare : List (DataW H)) : Rows.uptoBulkAll elems ≤ Rows.uptoBulk (.slice elems spare) := by
  simp only [Rows.uptoBulk]
  omega
theorem bulk_three (a b c : DataW H) : Rows.uptoBulk a + Rows.uptoBulk b + Rows.uptoBulk c ≤ Rows.uptoBulk (.agg [a, b, c]) := by
  simp only [Rows.uptoBulk, Rows.uptoBulkAll]
  omega
end

section
variable {H : Type} {enc : TypeId × Value → H} {W : World} {sp : Nat → Bool} {held : Bool}
theorem wants_open {fuel : Nat} {sv : Value} {x : DataW H × List MemPlace} (h : DataW.trod enc Try.prog W 0 sp held fuel 36 [sv] = some x) (hb : Rows.uptoBulk x.1 ≤ 2000000) :
    ∃ ps, SpansAt W sv ps ∧ (∀ p ∈ ps, Int64 p.1 ∧ Int64 p.2) ∧ ps.length ≤ Rows.uptoBulk x.1 := by
  rcases open_slice_pairs Try.underlying36 Try.underlying58 Try.cellsWant rfl rfl Try.cellsInt Try.cellsInt h with ⟨hcs, _⟩ | ⟨a, len, cap, m, n, V0, V1, D0, D1, P0, P1, hcs, _, hl, hm, hmm, hx, hcell⟩
  · simp only [List.cons.injEq, and_true] at hcs
    subst hcs
    exact ⟨[], SpansAt.nil W, fun s hs => (by cases hs), Nat.zero_le _⟩
  · simp only [List.cons.injEq, and_true] at hcs
    subst hcs
    have hlm : len ≤ m := by rw [hmm]; split <;> omega
    have hbl : len ≤ Rows.uptoBulk x.1 := by
      rw [hx]
      refine Nat.le_trans ?_ (bulk_elems _ _)
      have := bulk_len ((List.range len).map fun i => (DataW.agg [D0 i, D1 i] : DataW H))
      simpa using this
    have hint : ∀ i, i < len → (V0 i = .int .i64 (numOf (V0 i)) ∧ Int64 (numOf (V0 i))) ∧ (V1 i = .int .i64 (numOf (V1 i)) ∧ Int64 (numOf (V1 i))) := by
      intro i hi
      obtain ⟨_, _, g0, g1⟩ := hcell i (by omega)
      obtain ⟨n0, e0, _, w0⟩ := DataW.trod_int Try.underlying3 g0
      obtain ⟨n1, e1, _, w1⟩ := DataW.trod_int Try.underlying3 g1
      simp only [List.cons.injEq, and_true] at e0 e1
      rw [e0, e1]
      exact ⟨⟨rfl, bounds_i64 w0⟩, rfl, bounds_i64 w1⟩
    have hn : ((List.range len).map fun i => (numOf (V0 i), numOf (V1 i))).length = len := by simp
    refine ⟨(List.range len).map fun i => (numOf (V0 i), numOf (V1 i)), ⟨some a, cap, by rw [hn], by rw [hn]; exact hl, by rw [hn]; omega, by unfold maxLen at hm; omega, fun h0 => ?_⟩, fun s hs => ?_, by rw [hn]; exact hbl⟩
    · rw [hn] at h0
      obtain ⟨b, off, spot⟩ := a
      have hspot : spot = none := by simpa [Addr.add] using World.cell?_spot (hcell 0 (by omega)).1
      subst hspot
      refine ⟨b, off, rfl, cell_lt (by have := (hcell 0 (by omega)).1; simpa [Addr.add] using this), fun j p hp => ?_⟩
      have hj : j < len := by
        have := (List.getElem?_eq_some_iff.1 hp).1
        omega
      have hp' : p = (numOf (V0 j), numOf (V1 j)) := by
        rw [List.getElem?_map, List.getElem?_range hj] at hp
        simpa using hp.symm
      subst hp'
      obtain ⟨q0, q1, _⟩ := hcell j (by omega)
      rw [add_plain] at q0 q1
      exact ⟨by rw [q0, ← (hint j hj).1.1], by rw [Nat.add_assoc, q1, ← (hint j hj).2.1]⟩
    · obtain ⟨i, hi, rfl⟩ := List.mem_map.1 hs
      have hi' : i < len := by simpa using hi
      exact ⟨(hint i hi').1.2, (hint i hi').2.2⟩
theorem ints_open {fuel : Nat} {sv : Value} {x : DataW H × List MemPlace} (h : DataW.trod enc Try.prog W 0 sp held fuel 35 [sv] = some x) :
    ∃ xs, IntsAt W sv xs ∧ (∀ n ∈ xs, Int64 n) ∧ xs.length ≤ Rows.uptoBulk x.1 := by
  rcases open_ints Try.underlying35 Try.underlying3 Try.cellsInt h with ⟨hcs, _⟩ | ⟨a, len, cap, zs, hcs, _, hl, hm, hz, hx, hcell, hwf⟩
  · simp only [List.cons.injEq, and_true] at hcs
    subst hcs
    exact ⟨[], IntsAt.nil W, fun n hn => (by cases hn), Nat.zero_le _⟩
  · simp only [List.cons.injEq, and_true] at hcs
    subst hcs
    have hlz : len ≤ zs.length := by rw [hz]; split <;> omega
    have hn : (zs.take len).length = len := by rw [List.length_take]; omega
    have hbl : len ≤ Rows.uptoBulk x.1 := by
      rw [hx]
      refine Nat.le_trans ?_ (bulk_elems _ _)
      have := bulk_len (lits (H := H) .i64 (zs.take len))
      simp only [lits, List.length_map, hn] at this
      exact this
    refine ⟨zs.take len, ⟨some a, cap, by rw [hn], by rw [hn]; unfold maxLen at hm; omega, fun h0 => ?_⟩, fun n hn => bounds_i64 (hwf n (List.mem_of_mem_take hn)), by rw [hn]; exact hbl⟩
    rw [hn] at h0
    obtain ⟨b, off, spot⟩ := a
    have hspot : spot = none := by simpa [Addr.add] using World.cell?_spot (hcell 0 (by omega))
    subst hspot
    refine ⟨b, off, rfl, cell_lt (by have := hcell 0 (by omega); simpa [Addr.add] using this), fun j y hy => ?_⟩
    have hj : j < len := by
      have := (List.getElem?_eq_some_iff.1 hy).1
      omega
    rw [List.getElem?_take, if_pos hj] at hy
    have hc := hcell j (by omega)
    rw [add_plain] at hc
    rw [hc, List.getD_eq_getElem?_getD, hy]
    rfl
theorem table_of_cells {fuel : Nat} {cs : List Value} {x : DataW H × List MemPlace} (h : DataW.trod enc Try.prog W 0 sp held fuel 39 cs = some x) (hb : Rows.uptoBulk x.1 ≤ 2000000) :
    ∃ r : Rt, cs = tbCells r ∧ TbIn Any W r ∧ (Int64 r.2.2.c ∧ (∀ u ∈ r.2.2.ts, Int64 u) ∧ ∀ p ∈ r.2.2.ws, Int64 p.1 ∧ Int64 p.2) ∧ r.2.2.ts.length + r.2.2.ws.length ≤ Rows.uptoBulk x.1 := by
  obtain ⟨xs, n, _, hx, hlen, hxs, hf⟩ := DataW.trod_struct Try.underlying39 h
  rw [Try.cellsTr] at hlen
  obtain ⟨v0, v1, v2, rfl⟩ := list3 hlen
  obtain ⟨x0, x1, x2, rfl⟩ := list3 (show xs.length = 3 from hxs)
  have g0 : DataW.trod enc Try.prog W 0 sp held n 3 (([v0, v1, v2].drop 0).take (Try.prog.cellsOf 3)) = some x0 := hf 0 _ rfl
  have g1 : DataW.trod enc Try.prog W 0 sp held n 35 (([v0, v1, v2].drop 1).take (Try.prog.cellsOf 35)) = some x1 := hf 1 _ rfl
  have g2 : DataW.trod enc Try.prog W 0 sp held n 36 (([v0, v1, v2].drop 2).take (Try.prog.cellsOf 36)) = some x2 := hf 2 _ rfl
  rw [Try.cellsInt] at g0
  rw [Try.cellsInts] at g1
  rw [Try.cellsWants] at g2
  simp only [List.drop_succ_cons, List.drop_zero, List.take_succ_cons, List.take_zero] at g0 g1 g2
  have hbk := bulk_three x0.1 x1.1 x2.1
  have hx1 : x.1 = .agg [x0.1, x1.1, x2.1] := by rw [hx]; rfl
  rw [← hx1] at hbk
  obtain ⟨n0, e0, _, w0⟩ := DataW.trod_int Try.underlying3 g0
  obtain ⟨ts, ht, hto, htl⟩ := ints_open g1
  obtain ⟨ws, hw, hwo, hwl⟩ := wants_open g2 (by omega)
  simp only [List.cons.injEq, and_true] at e0
  obtain ⟨A1, c1, e1⟩ := ht.form
  obtain ⟨A2, c2, e2⟩ := hw.form
  subst e0 e1 e2
  exact ⟨((A1, c1), (A2, c2), ⟨n0, ts, ws⟩), rfl, ⟨ht, hw, fun _ _ _ => trivial, fun _ _ _ => trivial⟩, ⟨bounds_i64 w0, hto, hwo⟩, by show ts.length + ws.length ≤ _; omega⟩
instance : Inhabited Rt := ⟨((none, 0), (none, 0), default)⟩
theorem bulk_tabs {D : Nat → DataW H} {f : Nat → Rt} : ∀ is : List Nat, (∀ i ∈ is, (f i).2.2.ts.length + (f i).2.2.ws.length ≤ Rows.uptoBulk (D i)) → ticksN (tbsR (is.map f)) + wantsN (tbsR (is.map f)) ≤ Rows.uptoBulkAll (is.map D)
  | [], _ => Nat.le_refl _
  | i :: is, h => by
    have h1 := h i (List.mem_cons_self ..)
    have h2 := bulk_tabs is fun j hj => h j (List.mem_cons_of_mem _ hj)
    simp only [List.map_cons, tbsR, ticksN, wantsN, Rows.uptoBulkAll] at h2 ⊢
    omega
theorem bulk_mem {d : DataW H} : ∀ {l : List (DataW H)}, d ∈ l → Rows.uptoBulk d ≤ Rows.uptoBulkAll l
  | x :: r, h => by
    rcases List.mem_cons.1 h with rfl | h
    · simp only [Rows.uptoBulkAll]; omega
    · have := bulk_mem h
      simp only [Rows.uptoBulkAll]
      omega
theorem tabs_open {fuel : Nat} {sv : Value} {x : DataW H × List MemPlace} (h : DataW.trod enc Try.prog W 0 sp held fuel 32 [sv] = some x) (hb : Rows.uptoBulk x.1 ≤ 1048576) :
    ∃ l : List Tb, TabsAt W sv l ∧ TsOk l ∧ l.length ≤ 1048576 ∧ ticksN l + wantsN l ≤ 1048576 := by
  rcases open_slice Try.underlying32 h with ⟨h1, _⟩ | ⟨a, len, cap, m, n, D, Pm, h1, _, hl, hm, hmm, hx, hi⟩
  · simp only [List.cons.injEq, and_true] at h1
    subst h1
    exact ⟨[], TabsAt.nil W, fun a ha => (by cases ha), by decide, by decide⟩
  · simp only [List.cons.injEq, and_true] at h1
    subst h1
    have hlm : len ≤ m := by rw [hmm]; split <;> omega
    have hall : Rows.uptoBulkAll ((List.range len).map D) ≤ 1048576 := by
      rw [hx] at hb
      exact Nat.le_trans (bulk_elems _ _) hb
    have hbl : len ≤ 1048576 := by
      have := bulk_len ((List.range len).map D)
      rw [List.length_map, List.length_range] at this
      omega
    have key : ∀ i, i < len → ∃ r : Rt, (TbIn Any W r ∧ (Int64 r.2.2.c ∧ (∀ u ∈ r.2.2.ts, Int64 u) ∧ ∀ p ∈ r.2.2.ws, Int64 p.1 ∧ Int64 p.2) ∧ r.2.2.ts.length + r.2.2.ws.length ≤ Rows.uptoBulk (D i)) ∧ W.cell? (a.add (i * 3 + 0)) = some (.int .i64 r.2.2.c) ∧ W.cell? (a.add (i * 3 + 1)) = some (tV1 r) ∧ W.cell? (a.add (i * 3 + 2)) = some (tV2 r) := by
      intro i hlt
      obtain ⟨cs', hc, ht⟩ := hi i (by omega)
      rw [Try.cellsTr] at hc
      have hbi : Rows.uptoBulk (D i) ≤ 2000000 := by
        have := bulk_mem (l := (List.range len).map D) (d := D i) (List.mem_map.2 ⟨i, List.mem_range.2 hlt, rfl⟩)
        omega
      obtain ⟨r, rfl, hr⟩ := table_of_cells ht hbi
      obtain ⟨_, _, hat⟩ := World.cells?_some hc
      refine ⟨r, hr, ?_, ?_, ?_⟩
      · rw [← Go.Deep.add_add, hat 0 (by decide)]; rfl
      · rw [← Go.Deep.add_add, hat 1 (by decide)]; rfl
      · rw [← Go.Deep.add_add, hat 2 (by decide)]; rfl
    obtain ⟨f, hf⟩ := choose_lt key
    have hn : ((List.range len).map f).length = len := by simp
    refine ⟨tbsR ((List.range len).map f), ⟨(List.range len).map f, rfl, ?_, some a, cap, by rw [hn], by rw [hn]; exact hl, by unfold maxLen at hm; omega, fun h0 => ?_⟩, ?_, by rw [tbsR_length, hn]; exact hbl, Nat.le_trans (bulk_tabs _ fun i hi => (hf i (List.mem_range.1 hi)).1.2.2) hall⟩
    · intro r hr
      obtain ⟨i, hi', rfl⟩ := List.mem_map.1 hr
      exact (hf i (List.mem_range.1 hi')).1.1
    · rw [hn] at h0
      obtain ⟨b, off, spot⟩ := a
      have hspot : spot = none := by simpa [Addr.add] using World.cell?_spot (hf 0 (by omega)).2.1
      subst hspot
      refine ⟨b, off, rfl, cell_lt (by have := (hf 0 (by omega)).2.1; simpa [Addr.add] using this), fun i u hu => ?_⟩
      have hil := (List.getElem?_eq_some_iff.1 hu).1
      rw [rowT_length, hn] at hil
      obtain ⟨j, t, rfl, ht⟩ : ∃ j t, i = j * 3 + t ∧ t < 3 := ⟨i / 3, i % 3, by omega, Nat.mod_lt _ (by decide)⟩
      have hj : j < len := by omega
      have hg : ((List.range len).map f)[j]? = some (f j) := by rw [List.getElem?_map, List.getElem?_range hj]; rfl
      obtain ⟨r0, r1, r2⟩ := rowT_get _ _ _ hg
      obtain ⟨_, c0, c1, c2⟩ := hf j hj
      rw [add_plain] at c0 c1 c2
      simp only [← Nat.add_assoc, Nat.add_zero] at c0 c1 c2
      rcases t with _ | _ | _ | t
      · rw [Nat.add_zero, r0] at hu
        injection hu with hu
        rw [← hu]; exact c0
      · rw [r1] at hu
        injection hu with hu
        rw [← hu, ← Nat.add_assoc]; exact c1
      · rw [r2] at hu
        injection hu with hu
        rw [← hu, ← Nat.add_assoc]; exact c2
      · omega
    · intro y hy
      unfold tbsR at hy
      obtain ⟨r, hr, rfl⟩ := List.mem_map.1 hy
      obtain ⟨i, hi', rfl⟩ := List.mem_map.1 hr
      exact (hf i (List.mem_range.1 hi')).1.2.1
end
end Go.Proofs.Ytpjmdnhoiobedaa

/-
  The law of plans back from tables: TableBack.
  Conditions: the slices read as places and as tables; the numbers are of their kinds; the tables are not too long.
-/
set_option linter.unusedVariables false
set_option linter.unusedSimpArgs false
namespace Go.Proofs.Ytpjmdnhoiobedaa
open Go.RowKit

theorem sameB_self (f : Int) (m : Nat) (l : List Pl) : sameB f m l f m l = true := decide_eq_true ⟨rfl, rfl, rfl⟩
/-- What Back answers of a right plan's tables. -/
def RetP (n m : Nat) (p : List Pl) (w : World) (e : Ending) (w' : World) : Prop := ∃ A c, e = .returned (.tuple #[.agg #[.int .i64 (n : Int), .int .u32 m, .slice A p.length c], .int .i64 0]) ∧ PlsAt w' (.slice A p.length c) p ∧ Below w.heap.size w w'
theorem back_own {n m : Nat} {p : List Pl} (hR : Right n m p) (hJ : ∀ L, Joins (tabsOf n m p) L → coresT (tabsOf n m p) = m ∧ L = p) {w w' : World} {e : Ending} (h : RetBack n (tabsOf n m p) w e w') : RetP n m p w e w' := by
  obtain ⟨L, hj, hb, h2⟩ := h
  obtain ⟨e1, rfl⟩ := hJ L hj
  rcases h2 with ⟨_, v, rfl, hp⟩ | ⟨hn, _⟩
  · obtain ⟨A, c, rfl, _, _⟩ := hp.form
    rw [e1]
    exact ⟨A, c, rfl, hp, hb⟩
  · exact absurd ⟨by rw [e1]; exact hR, by rw [e1]; exact congrArg (fun k => tabsOf k m L) (Int.toNat_natCast n)⟩ hn
theorem whole_mem {l : List Pl} {c : Int} {p : Sp} (h : p ∈ wholesT l c) : ∃ y ∈ l, p.1 = y.u ∧ p.2 = y.s := by
  unfold wholesT at h
  obtain ⟨y, hy, rfl⟩ := List.mem_map.1 h
  exact ⟨y, (List.mem_filter.1 hy).1, rfl, rfl⟩
theorem tabs_ok {n m : Nat} {l : List Pl} (hL : ∀ x ∈ l, PlOk x) : TsOk (tabsOf n m l) := by
  intro x hx
  unfold tabsOf at hx
  obtain ⟨c, hc, rfl⟩ := List.mem_map.1 hx
  refine ⟨?_, ?_, ?_⟩
  · obtain ⟨q, rfl, hq, _⟩ := core_of hc
    show Int64 (q : Int)
    constructor <;> omega
  · intro u hu
    obtain ⟨t, _, rfl⟩ := List.mem_map.1 hu
    rcases Classical.em (ownF l c t = 0) with h | h
    · rw [h]; constructor <;> decide
    · obtain ⟨y, hy, e, _⟩ := own_some h
      rw [e]; exact (hL y hy).1
  · intro p hp
    obtain ⟨y, hy, h1, h2⟩ := whole_mem hp
    exact ⟨by rw [h1]; exact (hL y hy).1, by rw [h2]; exact (hL y hy).2.1⟩
theorem tabs_few (n m : Nat) (l : List Pl) (hn : n ≤ 64) (hl : l.length ≤ 300) : ticksN (tabsOf n m l) + wantsN (tabsOf n m l) ≤ 1200000 := by
  have h1 := tabsOf_le n m l
  have key : ∀ T : List Tb, (∀ x ∈ T, x.ts.length ≤ 64 ∧ x.ws.length ≤ 300) → ticksN T + wantsN T ≤ T.length * 364 := by
    intro T
    induction T with
    | nil => intro _; simp [ticksN, wantsN]
    | cons x T ih =>
      intro h
      have h2 := ih fun y hy => h y (List.mem_cons_of_mem _ hy)
      have h3 := h x (List.mem_cons_self ..)
      rw [ticksN, wantsN, List.length_cons]
      omega
  have h2 := key (tabsOf n m l) fun x hx => by
    unfold tabsOf at hx
    obtain ⟨c, hc, rfl⟩ := List.mem_map.1 hx
    refine ⟨?_, ?_⟩
    · show (rowN n _).length ≤ 64
      rw [rowN_length]; exact hn
    · exact Nat.le_trans (wholes_le _ _) hl
  omega

set_option maxRecDepth 100000 in
set_option maxHeartbeats 16000000 in
theorem back_law (f : Int) (m : Nat) (v : Value) (p : List Pl) (g : Int) (u : Value) (l : List Tb) (w : World) (h : PlsAt w v p) (ho : ∀ x ∈ p, PlOk x) (hm : m < 4294967296) (ht : TabsAt w u l) (hto : TsOk l) (hln : l.length ≤ 2000000) (htn : l.length ≤ 20 → ticksN l + wantsN l ≤ 1200000)
    (hJ : ∀ n : Nat, Right n m p → ∀ L, Joins (tabsOf n m p) L → coresT (tabsOf n m p) = m ∧ L = p) :
    Calls Try.prog 4 #[planA f m v, .int .i64 g, u] w (RetB (.bool true) w) := by
  obtain ⟨w1, P, hw1, hP, hPl, hb1, hbox⟩ := box_any w #[.int .i64 f, .int .u32 m, v] 25
  have HB1 := Lib.hid hb1
  have HH : Hid (∀ W, Below w1.heap.size w1 W → PlsAt W v p) := Lib.hid (fun W hk => h.keep (HB1.out.trans (hk.mono HB1.out.size)))
  have HTT : Hid (∀ W, Below w1.heap.size w1 W → TabsAt W u l) := Lib.hid (fun W hk => ht.keep (HB1.out.trans (hk.mono HB1.out.size)))
  have HS : Hid (∀ W, Below w1.heap.size w1 W → W.cell? ⟨P, 0, none⟩ = some (.int .i64 f) ∧ W.cell? ⟨P, 1, none⟩ = some (.int .u32 m) ∧ W.cell? ⟨P, 2, none⟩ = some v) := Lib.hid (fun W hk => three_heads (keep_block hbox hk))
  have HLI := Lib.hid (fun W (hk : Below w1.heap.size w1 W) => calls_iff (light_any f m v p W (HH.out W hk)))
  have HRI := Lib.hid (fun (hL : LightL p) W (hk : Below w1.heap.size w1 W) => calls_iff (right_any f m v p W (HH.out W hk) hL hm))
  have HAW := Lib.hid (fun W => awake_any W)
  have HK1 := Lib.hid (Below.refl w1.heap.size w1)
  have HO := Lib.hid ho
  have HJJ := Lib.hid hJ
  have HTO := Lib.hid hto
  have HTN := Lib.hid htn
  obtain ⟨A, cA, rfl, _, _⟩ := ht.form
  obtain ⟨N, hN⟩ : ∃ N, l.length = N := ⟨_, rfl⟩
  rw [hN] at HTT hln htn ⊢
  have HN := Lib.hid hN
  have HPLA : Hid (∀ x y z, planA x y z = .agg #[.int .i64 x, .int .u32 y, z]) := Lib.hid (fun _ _ _ => rfl)
  unfold planA at HLI HRI ⊢
  obtain ⟨r0, r1, r2⟩ := HS.out _ HK1.out
  clear h hb1 hbox ho hJ hto htn ht hN
  have mixed : Try.prog.follows .mixedOrders = true := by kernel_rfl
  go_enter Try.func4, Try.ntmps4
  go_upto_region 1 with fail
  clear hw1 hP
  go_cut [20] from 15 to 20 (fun s20 wx => Below w1.heap.size w1 wx ∧ ∃ b : Bool, s20 = .bool b ∧ (b = true → LightL p ∧ Right f m p))
  case first =>
    by_cases hlit : Lit p
    · have hL := hlit.light HO.out
      have HYL := Lib.hid (fun W hk => (HLI.out W hk).1 hlit)
      by_cases hr : Right f m p
      · have HYR := Lib.hid (fun W hk => (HRI.out hL W hk).1 hr)
        have HLR := Lib.hid (And.intro hL hr)
        clear HRI HLI hlit hr hL
        go_wp2_with fail
        refine (HYL.out _ HK1.out).mono ?_
        rintro e w2 ⟨rfl, hb2⟩
        have HK2 := Lib.hid (HK1.out.trans (hb2.mono HK1.out.size))
        clear r0 r1 r2 hb2
        obtain ⟨r0, r1, r2⟩ := HS.out _ HK2.out
        go_wp2_with fail
        refine (HYR.out _ HK2.out).mono ?_
        rintro e w3 ⟨rfl, hb3⟩
        have HK3 := Lib.hid (HK2.out.trans (hb3.mono HK2.out.size))
        clear hb3
        go_wp2_with fail
        go_meet
        exact ⟨HK3.out, true, rfl, fun _ => HLR.out⟩
      · have HYR := Lib.hid (fun W hk => (HRI.out hL W hk).2 hr)
        clear HRI HLI hlit hr hL
        go_wp2_with fail
        refine (HYL.out _ HK1.out).mono ?_
        rintro e w2 ⟨rfl, hb2⟩
        have HK2 := Lib.hid (HK1.out.trans (hb2.mono HK1.out.size))
        clear r0 r1 r2 hb2
        obtain ⟨r0, r1, r2⟩ := HS.out _ HK2.out
        go_wp2_with fail
        refine (HYR.out _ HK2.out).mono ?_
        rintro e w3 ⟨rfl, hb3⟩
        have HK3 := Lib.hid (HK2.out.trans (hb3.mono HK2.out.size))
        clear hb3
        go_wp2_with fail
        go_meet
        exact ⟨HK3.out, false, rfl, fun h => by cases h⟩
    · have HYL := Lib.hid (fun W hk => (HLI.out W hk).2 hlit)
      clear HRI HLI hlit
      go_wp2_with fail
      refine (HYL.out _ HK1.out).mono ?_
      rintro e w2 ⟨rfl, hb2⟩
      have HK2 := Lib.hid (HK1.out.trans (hb2.mono HK1.out.size))
      clear r0 r1 r2 hb2
      go_wp2_with fail
      go_meet
      exact ⟨HK2.out, false, rfl, fun h => by cases h⟩
  case rest =>
  obtain ⟨hkw, b, rfl, hbt⟩ := hcut
  have HK4 := Lib.hid hkw
  clear r0 r1 r2 hkw HLI HRI
  go_upto_if 20 with fail
  go_cut [7, 8] from 21 to 37 (fun s7 s8 wx => Below w1.heap.size w1 wx)
  case first =>
    obtain ⟨w4, hw4⟩ : ∃ w4, wc = w4 := ⟨_, rfl⟩
    rw [hw4] at HK4 ⊢
    by_cases hb : b = true
    · obtain ⟨hL, hr⟩ := hbt hb
      subst hb
      obtain ⟨n, rfl⟩ : ∃ n : Nat, f = (n : Int) := ⟨f.toNat, by have := hr.f2; omega⟩
      have hn64 : n ≤ 64 := by have := hr.f64; omega
      have HRO := Lib.hid (fun W (hk : Below w1.heap.size w1 W) => refOf_any n m v p W (HH.out W hk) hL hm hn64)
      have htl := tabsOf_le n m p
      have HOU := Lib.hid (fun x W h => ours_any x (tabsOf n m p) W h (by omega))
      have HBA := Lib.hid (fun x W h => (back_any n x (tabsOf n m p) W h (by omega) (tabs_ok HO.out) (tabs_few n m p hn64 hL.len)).mono fun e w' h => back_own hr (HJJ.out n hr) h)
      have HSB := Lib.hid (sameB_self n m p)
      generalize tabsOf n m p = T at HRO HOU HBA
      unfold planA at HRO
      have hkd := HK4.out.drew
      obtain ⟨r0, r1, r2⟩ := HS.out _ HK4.out
      clear hr hL hbt htl hn64 hw4
      go_wp2_with fail
      clear r0 r1 r2
      refine wp_region_held_drew (S := fun w' => w'.cell? ⟨P, 0, none⟩ = some (.int .i64 (n : Int)) ∧ w'.cell? ⟨P, 1, none⟩ = some (.int .u32 m) ∧ w'.cell? ⟨P, 2, none⟩ = some (v)) (by kernel_rfl) ?_ (fun hHeld => ?_)
      · exact HS.out _ hkd
      refine wpAnyH_take (i := 0) (oi := ⟨some 22, _, _, _, _, _⟩) (v := ?_) rfl (by kernel_rfl) (by kernel_rfl) (by kernel_rfl) (fun _ _ _ h => h) (Or.inl ⟨by kernel_rfl, ?_⟩) (by assumption) ?_
      rotate_left
      · (intro w hSw; (try dsimp only at hSw); go_simp; try with_reducible rfl)
      (try simp only [Act.put, List.setIfInBounds_toArray, List.set_cons_zero, List.set_cons_succ])
      refine wpAnyH_take (i := 1) (oi := ⟨some 23, _, _, _, _, _⟩) (v := ?_) rfl (by kernel_rfl) (by kernel_rfl) (by kernel_rfl) (fun _ _ _ h => h) (Or.inl ⟨by kernel_rfl, ?_⟩) (by assumption) ?_
      rotate_left
      · (intro w hSw; (try dsimp only at hSw); go_simp; try with_reducible rfl)
      (try simp only [Act.put, List.setIfInBounds_toArray, List.set_cons_zero, List.set_cons_succ])
      refine wpAnyH_take (i := 2) (oi := ⟨some 24, _, _, _, _, _⟩) (v := ?_) rfl (by kernel_rfl) (by kernel_rfl) (by kernel_rfl) (fun _ _ _ h => h) (Or.inl ⟨by kernel_rfl, ?_⟩) (by assumption) ?_
      rotate_left
      · (intro w hSw; (try dsimp only at hSw); go_simp; try with_reducible rfl)
      (try simp only [Act.put, List.setIfInBounds_toArray, List.set_cons_zero, List.set_cons_succ])
      refine wpAnyH_ready (rs := [3, 9]) (by kernel_rfl) (by simp) ?_
      refine AllReadyH.cons (o := ⟨some 25, _, _, _, _, _⟩) rfl (fun K hK => ?_) (AllReadyH.cons (o := ⟨some 7, _, _, _, _, _⟩) rfl (fun K hK => ?_) AllReadyH.nil)
      · rw [if_pos (by kernel_rfl)]
        go_simp
        go_at_call 11; refine (HRO.out _ hkd).mono ?_; rintro e w11 ⟨vR, rfl, ht, hb11⟩
        have hk11 := hkd.trans (hb11.mono hkd.size)
        refine hK.out _ _ ?_ (fun hHeld => ?_)
        · exact HS.out _ hk11
        clear hK K
        (try simp only [Act.put, List.setIfInBounds_toArray, List.set_cons_zero, List.set_cons_succ])
        refine wpAnyH_ready (rs := [4, 9]) (by kernel_rfl) (by simp) ?_
        refine AllReadyH.cons (o := ⟨some 26, _, _, _, _, _⟩) rfl (fun K hK => ?_) (AllReadyH.cons (o := ⟨some 7, _, _, _, _, _⟩) rfl (fun K hK => ?_) AllReadyH.nil)
        · rw [if_pos (by kernel_rfl)]
          go_simp
          go_at_call 14; refine (HOU.out _ _ ht).mono ?_; rintro e w12 ⟨vO, rfl, hu, hb12⟩
          have hk12 := hk11.trans (hb12.mono hk11.size)
          refine hK.out _ _ ?_ (fun hHeld => ?_)
          · exact HS.out _ hk12
          clear hK K
          (try simp only [Act.put, List.setIfInBounds_toArray, List.set_cons_zero, List.set_cons_succ])
          refine wpAnyH_ready (rs := [5, 9]) (by kernel_rfl) (by simp) ?_
          refine AllReadyH.cons (o := ⟨some 27, _, _, _, _, _⟩) rfl (fun K hK => ?_) (AllReadyH.cons (o := ⟨some 7, _, _, _, _, _⟩) rfl (fun K hK => ?_) AllReadyH.nil)
          · rw [if_pos (by kernel_rfl)]
            go_simp
            go_at_call 13; refine (HBA.out _ _ hu).mono ?_; rintro e w13 ⟨Aq, cq, rfl, hpl, hb13⟩
            have hk13 := hk12.trans (hb13.mono hk12.size)
            refine hK.out _ _ ?_ (fun hHeld => ?_)
            · exact HS.out _ hk13
            clear hK K
            (try simp only [Act.put, List.setIfInBounds_toArray, List.set_cons_zero, List.set_cons_succ])
            refine wpAnyH_take (i := 6) (oi := ⟨some 21, _, _, _, _, _⟩) (v := ?_) rfl (by kernel_rfl) (by kernel_rfl) (by kernel_rfl) (fun _ _ _ h => h) (Or.inl ⟨by kernel_rfl, ?_⟩) (by assumption) ?_
            rotate_left
            · (intro w hSw; (try dsimp only at hSw); go_simp; try with_reducible rfl)
            (try simp only [Act.put, List.setIfInBounds_toArray, List.set_cons_zero, List.set_cons_succ])
            refine wpAnyH_take (i := 7) (oi := ⟨some 28, _, _, _, _, _⟩) (v := ?_) rfl (by kernel_rfl) (by kernel_rfl) (by kernel_rfl) (fun _ _ _ h => h) (Or.inl ⟨by kernel_rfl, ?_⟩) (by assumption) ?_
            rotate_left
            · (intro w hSw; (try dsimp only at hSw); go_simp; try with_reducible rfl)
            (try simp only [Act.put, List.setIfInBounds_toArray, List.set_cons_zero, List.set_cons_succ])
            refine wpAnyH_take (i := 8) (oi := ⟨some 29, _, _, _, _, _⟩) (v := ?_) rfl (by kernel_rfl) (by kernel_rfl) (by kernel_rfl) (fun _ _ _ h => h) (Or.inl ⟨by kernel_rfl, ?_⟩) (by assumption) ?_
            rotate_left
            · (intro w hSw; (try dsimp only at hSw); go_simp; try with_reducible rfl)
            (try simp only [Act.put, List.setIfInBounds_toArray, List.set_cons_zero, List.set_cons_succ])
            refine wpAnyH_ready (rs := [9]) (by kernel_rfl) (by simp) ?_
            refine AllReadyH.cons (o := ⟨some 7, _, _, _, _, _⟩) rfl (fun K hK => ?_) AllReadyH.nil
            obtain ⟨w14, Q, hw14, hQ14, hQl, hb14, hq⟩ := box_any w13 #[.int .i64 0, .int .u32 0, .slice none 0 0] 25
            have hk14 := hk13.trans (hb14.mono hk13.size)
            have hQw : w1.heap.size ≤ Q := by have := hk13.size; omega
            have hpl := hpl.keep hb14
            rw [if_pos (by kernel_rfl)]
            go_simp
            refine hK.out _ _ ?_ (fun hHeld => ?_)
            · exact HS.out _ hk14
            clear hK K
            (try simp only [Act.put, List.setIfInBounds_toArray, List.set_cons_zero, List.set_cons_succ])
            clear hw14 hQ14
            refine wpAnyH_ready (rs := [10]) (by kernel_rfl) (by simp) ?_
            refine AllReadyH.cons (o := ⟨none, _, _, _, _, _⟩) rfl (fun K hK => ?_) AllReadyH.nil
            refine step_store_row16 rfl _ _ _ rfl Q #[.int .i64 (n : Int), .int .u32 m, .slice Aq p.length cq] (by simp [Act.eval, Act.put]) (by simp [Act.eval, Act.put]) 25 _ hq (Try.sizePn _ _ _) rfl (one3 _ _ _ _ _) ?_
            have hkz := below_row hk14 hQw #[.int .i64 (n : Int), .int .u32 m, .slice Aq p.length cq]
            refine hK.out _ _ ?_ (fun hHeld => ?_)
            · exact HS.out _ hkz
            clear hK K
            (try simp only [Act.put, List.setIfInBounds_toArray, List.set_cons_zero, List.set_cons_succ])
            refine wpAnyH_take (i := 11) (oi := ⟨some 8, _, _, _, _, _⟩) (v := ?_) rfl (by kernel_rfl) (by kernel_rfl) (by kernel_rfl) (fun _ _ _ h => h) (Or.inl ⟨by kernel_rfl, ?_⟩) (by assumption) ?_
            rotate_left
            · (intro w hSw; (try dsimp only at hSw); go_simp; try with_reducible rfl)
            (try simp only [Act.put, List.setIfInBounds_toArray, List.set_cons_zero, List.set_cons_succ])
            refine wpAnyH_done (by kernel_rfl) ?_ _
            have hqz : (w14.setRow Q #[.int .i64 (n : Int), .int .u32 m, .slice Aq p.length cq]).heap[Q]? = some (.cells #[.int .i64 (n : Int), .int .u32 m, .slice Aq p.length cq] 25 (0, 0)) := setRow_heap _ _ _ _ _ _ hq
            have HQS := Lib.hid ((pls_not hq hpl).keepF (W' := w14.setRow Q #[.int .i64 (n : Int), .int .u32 m, .slice Aq p.length cq]) (by simp [World.setRow]) fun b _ hF => setRow_other _ _ _ _ hF.2).any
            have HKZ := Lib.hid hkz
            have HSM := Lib.hid (refSame_any n m v p n m (.slice Aq p.length cq) p _ (HH.out _ hkz) HQS.out)
            rw [HSB.out] at HSM
            unfold planA at HSM
            obtain ⟨r0, r1, r2⟩ := HS.out _ hkz
            obtain ⟨q0, q1, q2⟩ := three_heads hqz
            clear hHeld hkz hq hpl hqz
            go_wp2_with fail
            refine HSM.out.mono ?_
            rintro e w9 ⟨rfl, hb9⟩
            have HK9 := Lib.hid (HKZ.out.trans (hb9.mono HKZ.out.size))
            go_wp2_with fail
            go_meet
            exact HK9.out
          · obtain ⟨w16, Q, hw16, hQ16, hQl, hb16, hq⟩ := box_any w12 #[.int .i64 0, .int .u32 0, .slice none 0 0] 25
            have hk16 := hk12.trans (hb16.mono hk12.size)
            have hQw : w1.heap.size ≤ Q := by have := hk12.size; omega
            have hu := hu.keep hb16
            rw [if_pos (by kernel_rfl)]
            go_simp
            refine hK.out _ _ ?_ (fun hHeld => ?_)
            · exact HS.out _ hk16
            clear hK K
            (try simp only [Act.put, List.setIfInBounds_toArray, List.set_cons_zero, List.set_cons_succ])
            clear hw16 hQ16
            refine wpAnyH_ready (rs := [5]) (by kernel_rfl) (by simp) ?_
            refine AllReadyH.cons (o := ⟨some 27, _, _, _, _, _⟩) rfl (fun K hK => ?_) AllReadyH.nil
            rw [if_pos (by kernel_rfl)]
            go_simp
            go_at_call 13; refine (HBA.out _ _ hu).mono ?_; rintro e w17 ⟨Aq, cq, rfl, hpl, hb17⟩
            have hk17 := hk16.trans (hb17.mono hk16.size)
            have hq := keep_block hq hb17
            refine hK.out _ _ ?_ (fun hHeld => ?_)
            · exact HS.out _ hk17
            clear hK K
            (try simp only [Act.put, List.setIfInBounds_toArray, List.set_cons_zero, List.set_cons_succ])
            refine wpAnyH_take (i := 6) (oi := ⟨some 21, _, _, _, _, _⟩) (v := ?_) rfl (by kernel_rfl) (by kernel_rfl) (by kernel_rfl) (fun _ _ _ h => h) (Or.inl ⟨by kernel_rfl, ?_⟩) (by assumption) ?_
            rotate_left
            · (intro w hSw; (try dsimp only at hSw); go_simp; try with_reducible rfl)
            (try simp only [Act.put, List.setIfInBounds_toArray, List.set_cons_zero, List.set_cons_succ])
            refine wpAnyH_take (i := 7) (oi := ⟨some 28, _, _, _, _, _⟩) (v := ?_) rfl (by kernel_rfl) (by kernel_rfl) (by kernel_rfl) (fun _ _ _ h => h) (Or.inl ⟨by kernel_rfl, ?_⟩) (by assumption) ?_
            rotate_left
            · (intro w hSw; (try dsimp only at hSw); go_simp; try with_reducible rfl)
            (try simp only [Act.put, List.setIfInBounds_toArray, List.set_cons_zero, List.set_cons_succ])
            refine wpAnyH_take (i := 8) (oi := ⟨some 29, _, _, _, _, _⟩) (v := ?_) rfl (by kernel_rfl) (by kernel_rfl) (by kernel_rfl) (fun _ _ _ h => h) (Or.inl ⟨by kernel_rfl, ?_⟩) (by assumption) ?_
            rotate_left
            · (intro w hSw; (try dsimp only at hSw); go_simp; try with_reducible rfl)
            (try simp only [Act.put, List.setIfInBounds_toArray, List.set_cons_zero, List.set_cons_succ])
            refine wpAnyH_ready (rs := [10]) (by kernel_rfl) (by simp) ?_
            refine AllReadyH.cons (o := ⟨none, _, _, _, _, _⟩) rfl (fun K hK => ?_) AllReadyH.nil
            refine step_store_row16 rfl _ _ _ rfl Q #[.int .i64 (n : Int), .int .u32 m, .slice Aq p.length cq] (by simp [Act.eval, Act.put]) (by simp [Act.eval, Act.put]) 25 _ hq (Try.sizePn _ _ _) rfl (one3 _ _ _ _ _) ?_
            have hkz := below_row hk17 hQw #[.int .i64 (n : Int), .int .u32 m, .slice Aq p.length cq]
            refine hK.out _ _ ?_ (fun hHeld => ?_)
            · exact HS.out _ hkz
            clear hK K
            (try simp only [Act.put, List.setIfInBounds_toArray, List.set_cons_zero, List.set_cons_succ])
            refine wpAnyH_take (i := 11) (oi := ⟨some 8, _, _, _, _, _⟩) (v := ?_) rfl (by kernel_rfl) (by kernel_rfl) (by kernel_rfl) (fun _ _ _ h => h) (Or.inl ⟨by kernel_rfl, ?_⟩) (by assumption) ?_
            rotate_left
            · (intro w hSw; (try dsimp only at hSw); go_simp; try with_reducible rfl)
            (try simp only [Act.put, List.setIfInBounds_toArray, List.set_cons_zero, List.set_cons_succ])
            refine wpAnyH_done (by kernel_rfl) ?_ _
            have hqz : (w17.setRow Q #[.int .i64 (n : Int), .int .u32 m, .slice Aq p.length cq]).heap[Q]? = some (.cells #[.int .i64 (n : Int), .int .u32 m, .slice Aq p.length cq] 25 (0, 0)) := setRow_heap _ _ _ _ _ _ hq
            have HQS := Lib.hid ((pls_not hq hpl).keepF (W' := w17.setRow Q #[.int .i64 (n : Int), .int .u32 m, .slice Aq p.length cq]) (by simp [World.setRow]) fun b _ hF => setRow_other _ _ _ _ hF.2).any
            have HKZ := Lib.hid hkz
            have HSM := Lib.hid (refSame_any n m v p n m (.slice Aq p.length cq) p _ (HH.out _ hkz) HQS.out)
            rw [HSB.out] at HSM
            unfold planA at HSM
            obtain ⟨r0, r1, r2⟩ := HS.out _ hkz
            obtain ⟨q0, q1, q2⟩ := three_heads hqz
            clear hHeld hkz hq hpl hqz
            go_wp2_with fail
            refine HSM.out.mono ?_
            rintro e w9 ⟨rfl, hb9⟩
            have HK9 := Lib.hid (HKZ.out.trans (hb9.mono HKZ.out.size))
            go_wp2_with fail
            go_meet
            exact HK9.out
        · obtain ⟨w19, Q, hw19, hQ19, hQl, hb19, hq⟩ := box_any w11 #[.int .i64 0, .int .u32 0, .slice none 0 0] 25
          have hk19 := hk11.trans (hb19.mono hk11.size)
          have hQw : w1.heap.size ≤ Q := by have := hk11.size; omega
          have ht := ht.keep hb19
          rw [if_pos (by kernel_rfl)]
          go_simp
          refine hK.out _ _ ?_ (fun hHeld => ?_)
          · exact HS.out _ hk19
          clear hK K
          (try simp only [Act.put, List.setIfInBounds_toArray, List.set_cons_zero, List.set_cons_succ])
          clear hw19 hQ19
          refine wpAnyH_ready (rs := [4]) (by kernel_rfl) (by simp) ?_
          refine AllReadyH.cons (o := ⟨some 26, _, _, _, _, _⟩) rfl (fun K hK => ?_) AllReadyH.nil
          rw [if_pos (by kernel_rfl)]
          go_simp
          go_at_call 14; refine (HOU.out _ _ ht).mono ?_; rintro e w20 ⟨vO, rfl, hu, hb20⟩
          have hk20 := hk19.trans (hb20.mono hk19.size)
          have hq := keep_block hq hb20
          refine hK.out _ _ ?_ (fun hHeld => ?_)
          · exact HS.out _ hk20
          clear hK K
          (try simp only [Act.put, List.setIfInBounds_toArray, List.set_cons_zero, List.set_cons_succ])
          refine wpAnyH_ready (rs := [5]) (by kernel_rfl) (by simp) ?_
          refine AllReadyH.cons (o := ⟨some 27, _, _, _, _, _⟩) rfl (fun K hK => ?_) AllReadyH.nil
          rw [if_pos (by kernel_rfl)]
          go_simp
          go_at_call 13; refine (HBA.out _ _ hu).mono ?_; rintro e w21 ⟨Aq, cq, rfl, hpl, hb21⟩
          have hk21 := hk20.trans (hb21.mono hk20.size)
          have hq := keep_block hq hb21
          refine hK.out _ _ ?_ (fun hHeld => ?_)
          · exact HS.out _ hk21
          clear hK K
          (try simp only [Act.put, List.setIfInBounds_toArray, List.set_cons_zero, List.set_cons_succ])
          refine wpAnyH_take (i := 6) (oi := ⟨some 21, _, _, _, _, _⟩) (v := ?_) rfl (by kernel_rfl) (by kernel_rfl) (by kernel_rfl) (fun _ _ _ h => h) (Or.inl ⟨by kernel_rfl, ?_⟩) (by assumption) ?_
          rotate_left
          · (intro w hSw; (try dsimp only at hSw); go_simp; try with_reducible rfl)
          (try simp only [Act.put, List.setIfInBounds_toArray, List.set_cons_zero, List.set_cons_succ])
          refine wpAnyH_take (i := 7) (oi := ⟨some 28, _, _, _, _, _⟩) (v := ?_) rfl (by kernel_rfl) (by kernel_rfl) (by kernel_rfl) (fun _ _ _ h => h) (Or.inl ⟨by kernel_rfl, ?_⟩) (by assumption) ?_
          rotate_left
          · (intro w hSw; (try dsimp only at hSw); go_simp; try with_reducible rfl)
          (try simp only [Act.put, List.setIfInBounds_toArray, List.set_cons_zero, List.set_cons_succ])
          refine wpAnyH_take (i := 8) (oi := ⟨some 29, _, _, _, _, _⟩) (v := ?_) rfl (by kernel_rfl) (by kernel_rfl) (by kernel_rfl) (fun _ _ _ h => h) (Or.inl ⟨by kernel_rfl, ?_⟩) (by assumption) ?_
          rotate_left
          · (intro w hSw; (try dsimp only at hSw); go_simp; try with_reducible rfl)
          (try simp only [Act.put, List.setIfInBounds_toArray, List.set_cons_zero, List.set_cons_succ])
          refine wpAnyH_ready (rs := [10]) (by kernel_rfl) (by simp) ?_
          refine AllReadyH.cons (o := ⟨none, _, _, _, _, _⟩) rfl (fun K hK => ?_) AllReadyH.nil
          refine step_store_row16 rfl _ _ _ rfl Q #[.int .i64 (n : Int), .int .u32 m, .slice Aq p.length cq] (by simp [Act.eval, Act.put]) (by simp [Act.eval, Act.put]) 25 _ hq (Try.sizePn _ _ _) rfl (one3 _ _ _ _ _) ?_
          have hkz := below_row hk21 hQw #[.int .i64 (n : Int), .int .u32 m, .slice Aq p.length cq]
          refine hK.out _ _ ?_ (fun hHeld => ?_)
          · exact HS.out _ hkz
          clear hK K
          (try simp only [Act.put, List.setIfInBounds_toArray, List.set_cons_zero, List.set_cons_succ])
          refine wpAnyH_take (i := 11) (oi := ⟨some 8, _, _, _, _, _⟩) (v := ?_) rfl (by kernel_rfl) (by kernel_rfl) (by kernel_rfl) (fun _ _ _ h => h) (Or.inl ⟨by kernel_rfl, ?_⟩) (by assumption) ?_
          rotate_left
          · (intro w hSw; (try dsimp only at hSw); go_simp; try with_reducible rfl)
          (try simp only [Act.put, List.setIfInBounds_toArray, List.set_cons_zero, List.set_cons_succ])
          refine wpAnyH_done (by kernel_rfl) ?_ _
          have hqz : (w21.setRow Q #[.int .i64 (n : Int), .int .u32 m, .slice Aq p.length cq]).heap[Q]? = some (.cells #[.int .i64 (n : Int), .int .u32 m, .slice Aq p.length cq] 25 (0, 0)) := setRow_heap _ _ _ _ _ _ hq
          have HQS := Lib.hid ((pls_not hq hpl).keepF (W' := w21.setRow Q #[.int .i64 (n : Int), .int .u32 m, .slice Aq p.length cq]) (by simp [World.setRow]) fun b _ hF => setRow_other _ _ _ _ hF.2).any
          have HKZ := Lib.hid hkz
          have HSM := Lib.hid (refSame_any n m v p n m (.slice Aq p.length cq) p _ (HH.out _ hkz) HQS.out)
          rw [HSB.out] at HSM
          unfold planA at HSM
          obtain ⟨r0, r1, r2⟩ := HS.out _ hkz
          obtain ⟨q0, q1, q2⟩ := three_heads hqz
          clear hHeld hkz hq hpl hqz
          go_wp2_with fail
          refine HSM.out.mono ?_
          rintro e w9 ⟨rfl, hb9⟩
          have HK9 := Lib.hid (HKZ.out.trans (hb9.mono HKZ.out.size))
          go_wp2_with fail
          go_meet
          exact HK9.out
      · obtain ⟨w23, Q, hw23, hQ23, hQl, hb23, hq⟩ := box_any w4.drew #[.int .i64 0, .int .u32 0, .slice none 0 0] 25
        have hk23 := hkd.trans (hb23.mono hkd.size)
        have hQw : w1.heap.size ≤ Q := by have := hkd.size; omega
        rw [if_pos (by kernel_rfl)]
        go_simp
        refine hK.out _ _ ?_ (fun hHeld => ?_)
        · exact HS.out _ hk23
        clear hK K
        (try simp only [Act.put, List.setIfInBounds_toArray, List.set_cons_zero, List.set_cons_succ])
        clear hw23 hQ23
        refine wpAnyH_ready (rs := [3]) (by kernel_rfl) (by simp) ?_
        refine AllReadyH.cons (o := ⟨some 25, _, _, _, _, _⟩) rfl (fun K hK => ?_) AllReadyH.nil
        rw [if_pos (by kernel_rfl)]
        go_simp
        go_at_call 11; refine (HRO.out _ hk23).mono ?_; rintro e w24 ⟨vR, rfl, ht, hb24⟩
        have hk24 := hk23.trans (hb24.mono hk23.size)
        have hq := keep_block hq hb24
        refine hK.out _ _ ?_ (fun hHeld => ?_)
        · exact HS.out _ hk24
        clear hK K
        (try simp only [Act.put, List.setIfInBounds_toArray, List.set_cons_zero, List.set_cons_succ])
        refine wpAnyH_ready (rs := [4]) (by kernel_rfl) (by simp) ?_
        refine AllReadyH.cons (o := ⟨some 26, _, _, _, _, _⟩) rfl (fun K hK => ?_) AllReadyH.nil
        rw [if_pos (by kernel_rfl)]
        go_simp
        go_at_call 14; refine (HOU.out _ _ ht).mono ?_; rintro e w25 ⟨vO, rfl, hu, hb25⟩
        have hk25 := hk24.trans (hb25.mono hk24.size)
        have hq := keep_block hq hb25
        refine hK.out _ _ ?_ (fun hHeld => ?_)
        · exact HS.out _ hk25
        clear hK K
        (try simp only [Act.put, List.setIfInBounds_toArray, List.set_cons_zero, List.set_cons_succ])
        refine wpAnyH_ready (rs := [5]) (by kernel_rfl) (by simp) ?_
        refine AllReadyH.cons (o := ⟨some 27, _, _, _, _, _⟩) rfl (fun K hK => ?_) AllReadyH.nil
        rw [if_pos (by kernel_rfl)]
        go_simp
        go_at_call 13; refine (HBA.out _ _ hu).mono ?_; rintro e w26 ⟨Aq, cq, rfl, hpl, hb26⟩
        have hk26 := hk25.trans (hb26.mono hk25.size)
        have hq := keep_block hq hb26
        refine hK.out _ _ ?_ (fun hHeld => ?_)
        · exact HS.out _ hk26
        clear hK K
        (try simp only [Act.put, List.setIfInBounds_toArray, List.set_cons_zero, List.set_cons_succ])
        refine wpAnyH_take (i := 6) (oi := ⟨some 21, _, _, _, _, _⟩) (v := ?_) rfl (by kernel_rfl) (by kernel_rfl) (by kernel_rfl) (fun _ _ _ h => h) (Or.inl ⟨by kernel_rfl, ?_⟩) (by assumption) ?_
        rotate_left
        · (intro w hSw; (try dsimp only at hSw); go_simp; try with_reducible rfl)
        (try simp only [Act.put, List.setIfInBounds_toArray, List.set_cons_zero, List.set_cons_succ])
        refine wpAnyH_take (i := 7) (oi := ⟨some 28, _, _, _, _, _⟩) (v := ?_) rfl (by kernel_rfl) (by kernel_rfl) (by kernel_rfl) (fun _ _ _ h => h) (Or.inl ⟨by kernel_rfl, ?_⟩) (by assumption) ?_
        rotate_left
        · (intro w hSw; (try dsimp only at hSw); go_simp; try with_reducible rfl)
        (try simp only [Act.put, List.setIfInBounds_toArray, List.set_cons_zero, List.set_cons_succ])
        refine wpAnyH_take (i := 8) (oi := ⟨some 29, _, _, _, _, _⟩) (v := ?_) rfl (by kernel_rfl) (by kernel_rfl) (by kernel_rfl) (fun _ _ _ h => h) (Or.inl ⟨by kernel_rfl, ?_⟩) (by assumption) ?_
        rotate_left
        · (intro w hSw; (try dsimp only at hSw); go_simp; try with_reducible rfl)
        (try simp only [Act.put, List.setIfInBounds_toArray, List.set_cons_zero, List.set_cons_succ])
        refine wpAnyH_ready (rs := [10]) (by kernel_rfl) (by simp) ?_
        refine AllReadyH.cons (o := ⟨none, _, _, _, _, _⟩) rfl (fun K hK => ?_) AllReadyH.nil
        refine step_store_row16 rfl _ _ _ rfl Q #[.int .i64 (n : Int), .int .u32 m, .slice Aq p.length cq] (by simp [Act.eval, Act.put]) (by simp [Act.eval, Act.put]) 25 _ hq (Try.sizePn _ _ _) rfl (one3 _ _ _ _ _) ?_
        have hkz := below_row hk26 hQw #[.int .i64 (n : Int), .int .u32 m, .slice Aq p.length cq]
        refine hK.out _ _ ?_ (fun hHeld => ?_)
        · exact HS.out _ hkz
        clear hK K
        (try simp only [Act.put, List.setIfInBounds_toArray, List.set_cons_zero, List.set_cons_succ])
        refine wpAnyH_take (i := 11) (oi := ⟨some 8, _, _, _, _, _⟩) (v := ?_) rfl (by kernel_rfl) (by kernel_rfl) (by kernel_rfl) (fun _ _ _ h => h) (Or.inl ⟨by kernel_rfl, ?_⟩) (by assumption) ?_
        rotate_left
        · (intro w hSw; (try dsimp only at hSw); go_simp; try with_reducible rfl)
        (try simp only [Act.put, List.setIfInBounds_toArray, List.set_cons_zero, List.set_cons_succ])
        refine wpAnyH_done (by kernel_rfl) ?_ _
        have hqz : (w26.setRow Q #[.int .i64 (n : Int), .int .u32 m, .slice Aq p.length cq]).heap[Q]? = some (.cells #[.int .i64 (n : Int), .int .u32 m, .slice Aq p.length cq] 25 (0, 0)) := setRow_heap _ _ _ _ _ _ hq
        have HQS := Lib.hid ((pls_not hq hpl).keepF (W' := w26.setRow Q #[.int .i64 (n : Int), .int .u32 m, .slice Aq p.length cq]) (by simp [World.setRow]) fun b _ hF => setRow_other _ _ _ _ hF.2).any
        have HKZ := Lib.hid hkz
        have HSM := Lib.hid (refSame_any n m v p n m (.slice Aq p.length cq) p _ (HH.out _ hkz) HQS.out)
        rw [HSB.out] at HSM
        unfold planA at HSM
        obtain ⟨r0, r1, r2⟩ := HS.out _ hkz
        obtain ⟨q0, q1, q2⟩ := three_heads hqz
        clear hHeld hkz hq hpl hqz
        go_wp2_with fail
        refine HSM.out.mono ?_
        rintro e w9 ⟨rfl, hb9⟩
        have HK9 := Lib.hid (HKZ.out.trans (hb9.mono HKZ.out.size))
        go_wp2_with fail
        go_meet
        exact HK9.out
    · obtain rfl : b = false := by simpa using hb
      clear hbt hb hw4
      go_wp2_with fail
      go_meet
      exact HK4.out
  case rest =>
  clear HJJ
  have HKC := Lib.hid hcut
  clear hcut
  go_wp2_with fail
  go_loopg [9, 10] N (fun gg s9 s10 wr => ∃ (i : Nat) (z : Int), i ≤ N ∧ i ≤ 30 ∧ gg = N - i ∧ s10 = .int .i64 i ∧ s9 = .int .i64 z ∧ 0 ≤ z ∧ z ≤ 400 * i ∧ Below w1.heap.size w1 wr)
  case atStart => exact ⟨0, 0, Nat.zero_le _, by omega, by omega, rfl, rfl, by omega, by omega, HKC.out⟩
  case round =>
    obtain ⟨i, z, hi1, hi3, hg, rfl, rfl, hz0, hz4, hkr⟩ := hrel
    have HG := Lib.hid hg
    have HKR := Lib.hid hkr
    clear hg hkr
    by_cases hlt : i < N
    · have hltz : (i : Int) < (N : Int) := by omega
      have hi0 : (0 : Int) ≤ (i : Int) := by omega
      by_cases hl3 : i < 30
      · have hl3z : (i : Int) < 30 := by omega
        obtain ⟨x, hx⟩ := exP_at (xs := l) (k := i) (by rw [HN.out]; exact hlt)
        obtain ⟨b, o, A1, c1, A2, c2, hA, hbl, g0, g1, g2, _, _⟩ := (HTT.out _ HKR.out).at_ hx
        subst hA
        obtain ⟨k1, hk1⟩ : ∃ k1, x.ts.length = k1 := ⟨_, rfl⟩
        obtain ⟨k2, hk2⟩ : ∃ k2, x.ws.length = k2 := ⟨_, rfl⟩
        rw [hk1] at g1
        rw [hk2] at g2
        clear hx hk1 hk2 g0
        by_cases h1 : (200 : Int) < (k1 : Int) <;> by_cases h2 : (200 : Int) < (k2 : Int)
        all_goals
          go_wp2_with fail
          go_region
          go_wp2_with fail
          go_roundg (N - (i + 1))
          case measure => have := HG.out; omega
          case rel => exact ⟨i + 1, _, by omega, by omega, rfl, by go_num, rfl, by omega, by omega, by first | exact HKR.out | exact below_drewN HKR.out _⟩
      · have hl3z : ¬ (i : Int) < 30 := by omega
        have hN2 : (20 : Int) < (N : Int) := by omega
        go_wp2_with fail
        refine (HAW.out _).mono ?_
        rintro e w6 ⟨rfl, hb6⟩
        have HBE := Lib.hid (HKR.out.trans (hb6.mono HKR.out.size))
        go_wp2_with fail
        go_ret
        exact ⟨rfl, HB1.out.trans (HBE.out.mono HB1.out.size)⟩
    · have hltz : ¬ (i : Int) < (N : Int) := by omega
      by_cases hN2 : (20 : Int) < (N : Int)
      · go_wp2_with fail
        refine (HAW.out _).mono ?_
        rintro e w6 ⟨rfl, hb6⟩
        have HBE := Lib.hid (HKR.out.trans (hb6.mono HKR.out.size))
        go_wp2_with fail
        go_ret
        exact ⟨rfl, HB1.out.trans (HBE.out.mono HB1.out.size)⟩
      · by_cases hz2 : (1500 : Int) < z
        · go_wp2_with fail
          refine (HAW.out _).mono ?_
          rintro e w6 ⟨rfl, hb6⟩
          have HBE := Lib.hid (HKR.out.trans (hb6.mono HKR.out.size))
          go_wp2_with fail
          go_ret
          exact ⟨rfl, HB1.out.trans (HBE.out.mono HB1.out.size)⟩
        · have hl20 : l.length ≤ 20 := by rw [HN.out]; omega
          have HOL := Lib.hid (fun W h => ours_any (.slice A N cA) l W h (by omega))
          have HBK := Lib.hid (fun x W h => back_any g x l W h hl20 HTO.out (HTN.out hl20))
          have HWD := Lib.hid (fun L h => join_wide (L := L) HTO.out hl20 (HTN.out hl20) h)
          have hM2 : coresT l < 4294967296 := by
            have := coresT_lt l l.length
            rwa [List.take_of_length_le (Nat.le_refl _)] at this
          obtain ⟨M, hM⟩ : ∃ M, coresT l = M := ⟨_, rfl⟩
          rw [hM] at hM2
          have HM := Lib.hid hM
          clear hM hl20
          go_wp2_with fail
          refine (HOL.out _ (HTT.out _ HKR.out)).mono ?_
          rintro e w5 ⟨vo, rfl, hto, hb5⟩
          have HK5 := Lib.hid (HKR.out.trans (hb5.mono HKR.out.size))
          have HTO5 := Lib.hid hto
          clear hto hb5
          go_wp2_with fail
          refine (HBK.out _ _ HTO5.out).mono ?_
          rintro e w6 ⟨L, hj, hb6, hres⟩
          have HK6 := Lib.hid (HK5.out.trans (hb6.mono HK5.out.size))
          clear hb6
          obtain ⟨wz, Q, hwz, hQ, hQl, hbz, hqz⟩ := box_any w6 #[.int .i64 0, .int .u32 0, .slice none 0 0] 25
          have HQZ := Lib.hid hqz
          have HKZ := Lib.hid (HK6.out.trans (hbz.mono HK6.out.size))
          have hQw : w1.heap.size ≤ Q := by have := HK6.out.size; omega
          rcases hres with ⟨hok, vq, rfl, hpl⟩ | ⟨hno, rfl⟩
          · obtain ⟨hr, htb⟩ := hok
            rw [HM.out] at hr htb
            have hL := hr.light (HWD.out L hj.perm)
            obtain ⟨n, rfl⟩ : ∃ n : Nat, g = (n : Int) := ⟨g.toNat, by have := hr.f2; omega⟩
            have hn64 : n ≤ 64 := by have := hr.f64; omega
            rw [Int.toNat_natCast] at htb
            obtain ⟨Aq, cq, rfl, _, _⟩ := hpl.form
            obtain ⟨w7, hw7⟩ : ∃ w7, wz.setRow Q #[.int .i64 (n : Int), .int .u32 M, .slice Aq L.length cq] = w7 := ⟨_, rfl⟩
            have hqq : w7.heap[Q]? = some (.cells #[.int .i64 (n : Int), .int .u32 M, .slice Aq L.length cq] 25 (0, 0)) := by rw [← hw7]; exact setRow_heap _ _ _ _ _ _ hqz
            have hk7 : Below w1.heap.size w1 w7 := by rw [← hw7]; exact below_row HKZ.out hQw _
            have hpq : PlsAt w7 (.slice Aq L.length cq) L := by rw [← hw7]; exact ((pls_not hqz (hpl.keep hbz)).keepF (by simp [World.setRow]) fun b _ hF => setRow_other _ _ _ _ hF.2).any
            have HQQ := Lib.hid hqq
            have HK7 := Lib.hid hk7
            have HPQ := Lib.hid hpq
            have HRO := Lib.hid (fun W (hk : Below w7.heap.size w7 W) => refOf_any n M (.slice Aq L.length cq) L W (HPQ.out.keep hk) hL hM2 hn64)
            have HRQ := Lib.hid (fun W (hk : Below w7.heap.size w7 W) => (calls_iff (right_any n M (.slice Aq L.length cq) L W (HPQ.out.keep hk) hL hM2)).1 hr)
            rw [htb] at HRO
            unfold planA at HRO HRQ ⊢
            rw [HM.out]
            clear hpl hqz hbz hqq hk7 hpq hr hL htb hj hn64
            obtain ⟨q0, q1, q2⟩ := three_heads HQQ.out
            go_wp2_with (refine wpList_store_row rfl _ _ _ rfl Q #[.int .i64 (n : Int), .int .u32 M, .slice Aq L.length cq] rfl rfl 25 _ HQZ.out (Try.sizePn _ _ _) rfl (one3 _ _ _ _ _) ?_)
            clear hwz hQ hw7
            refine (HRO.out _ (Below.refl _ _)).mono ?_
            rintro e w8 ⟨vo2, rfl, hto2, hb8⟩
            have HK8 := Lib.hid (HK7.out.trans (hb8.mono HK7.out.size))
            have HB8 := Lib.hid hb8
            obtain ⟨Ao, co, rfl, _, _⟩ := hto2.form
            rw [HN.out] at hto2 ⊢
            have HTO8 := Lib.hid hto2
            clear q0 q1 q2
            obtain ⟨q0, q1, q2⟩ := three_heads (keep_block HQQ.out hb8)
            clear hb8 hto2
            go_wp2_with fail
            refine (HRQ.out _ HB8.out).mono ?_
            rintro e w9 ⟨rfl, hb9⟩
            have HK9 := Lib.hid (HK8.out.trans (hb9.mono HK8.out.size))
            have HTB := Lib.hid (HTO8.out.keep hb9)
            have HB9 := Lib.hid (HB8.out.trans (hb9.mono HB8.out.size))
            clear q0 q1 q2
            obtain ⟨q0, q1, q2⟩ := three_heads (keep_block HQQ.out HB9.out)
            have e0 : ((N : Int) != (N : Int)) = false := by simp
            have e1 : ((n : Int) != (n : Int)) = false := by simp
            clear hb9
            go_wp2_with fail
            clear q0 q1 q2
            go_loopg [14] N (fun gg s14 wr => ∃ i : Nat, i ≤ N ∧ gg = N - i ∧ s14 = .int .i64 i ∧ Below w9.heap.size w9 wr)
            case atStart => exact ⟨0, Nat.zero_le _, by omega, rfl, Below.refl _ _⟩
            case round =>
              obtain ⟨i, hi, hg, rfl, hbw⟩ := hrel
              have HG := Lib.hid hg
              have HBW := Lib.hid hbw
              by_cases hlt : i < N
              · have hi0 : (0 : Int) ≤ (i : Int) := by omega
                have hltz : (i : Int) < (N : Int) := by omega
                obtain ⟨x, hx⟩ := exP_at (xs := l) (k := i) (by rw [HN.out]; exact hlt)
                obtain ⟨ba, oa, A1, c1, A2, c2, hA, lba, g0, g1, g2, hi1, hs1⟩ := (HTB.out.keep hbw).at_ hx
                obtain ⟨bb, ob, B1, d1, B2, d2, hB, lbb, k0, k1, k2, hi2, hs2⟩ := ((HTT.out _ HK9.out).keep hbw).at_ hx
                subst hA hB
                have hdr : Below wr.heap.size wr wr.drew := (Below.refl _ wr).drew
                clear hbw hg hx
                go_wp2_with fail
                refine wp_region_held_drew (S := fun w' => w'.cell? ⟨ba, oa + i * 3, none⟩ = some (.int .i64 x.c) ∧ w'.cell? ⟨ba, oa + i * 3 + 1, none⟩ = some (.slice A1 x.ts.length c1) ∧ w'.cell? ⟨ba, oa + i * 3 + 2, none⟩ = some (.slice A2 x.ws.length c2) ∧ w'.cell? ⟨bb, ob + i * 3, none⟩ = some (.int .i64 x.c) ∧ w'.cell? ⟨bb, ob + i * 3 + 1, none⟩ = some (.slice B1 x.ts.length d1) ∧ w'.cell? ⟨bb, ob + i * 3 + 2, none⟩ = some (.slice B2 x.ws.length d2)) (by kernel_rfl) ?_ (fun hHeld => ?_)
                · exact ⟨g0, g1, g2, k0, k1, k2⟩
                refine wpAnyH_take (i := 0) (oi := ⟨some 116, _, _, _, _, _⟩) (v := ?_) rfl (by kernel_rfl) (by kernel_rfl) (by kernel_rfl) (fun _ _ _ h => h) (Or.inl ⟨by kernel_rfl, ?_⟩) (by assumption) ?_
                rotate_left
                · (intro w hSw; (try dsimp only at hSw); go_simp; try with_reducible rfl)
                (try simp only [Act.put, List.setIfInBounds_toArray, List.set_cons_zero, List.set_cons_succ])
                refine wpAnyH_take (i := 1) (oi := ⟨some 117, _, _, _, _, _⟩) (v := ?_) rfl (by kernel_rfl) (by kernel_rfl) (by kernel_rfl) (fun _ _ _ h => h) (Or.inl ⟨by kernel_rfl, ?_⟩) (by assumption) ?_
                rotate_left
                · (intro w hSw; (try dsimp only at hSw); go_simp; try with_reducible rfl)
                (try simp only [Act.put, List.setIfInBounds_toArray, List.set_cons_zero, List.set_cons_succ])
                refine wpAnyH_take (i := 2) (oi := ⟨some 118, _, _, _, _, _⟩) (v := ?_) rfl (by kernel_rfl) (by kernel_rfl) (by kernel_rfl) (fun _ _ _ h => h) (Or.inl ⟨by kernel_rfl, ?_⟩) (by assumption) ?_
                rotate_left
                · (intro w hSw; (try dsimp only at hSw); go_simp; try with_reducible rfl)
                (try simp only [Act.put, List.setIfInBounds_toArray, List.set_cons_zero, List.set_cons_succ])
                refine wpAnyH_take (i := 3) (oi := ⟨some 119, _, _, _, _, _⟩) (v := ?_) rfl (by kernel_rfl) (by kernel_rfl) (by kernel_rfl) (fun _ _ _ h => h) (Or.inl ⟨by kernel_rfl, ?_⟩) (by assumption) ?_
                rotate_left
                · (intro w hSw; (try dsimp only at hSw); go_simp; try with_reducible rfl)
                (try simp only [Act.put, List.setIfInBounds_toArray, List.set_cons_zero, List.set_cons_succ])
                refine wpAnyH_take (i := 4) (oi := ⟨some 120, _, _, _, _, _⟩) (v := ?_) rfl (by kernel_rfl) (by kernel_rfl) (by kernel_rfl) (fun _ _ _ h => h) (Or.inl ⟨by kernel_rfl, ?_⟩) (by assumption) ?_
                rotate_left
                · (intro w hSw; (try dsimp only at hSw); go_simp; try with_reducible rfl)
                (try simp only [Act.put, List.setIfInBounds_toArray, List.set_cons_zero, List.set_cons_succ])
                refine wpAnyH_take (i := 5) (oi := ⟨some 121, _, _, _, _, _⟩) (v := ?_) rfl (by kernel_rfl) (by kernel_rfl) (by kernel_rfl) (fun _ _ _ h => h) (Or.inl ⟨by kernel_rfl, ?_⟩) (by assumption) ?_
                rotate_left
                · (intro w hSw; (try dsimp only at hSw); go_simp; try with_reducible rfl)
                (try simp only [Act.put, List.setIfInBounds_toArray, List.set_cons_zero, List.set_cons_succ])
                refine wpAnyH_take (i := 6) (oi := ⟨some 122, _, _, _, _, _⟩) (v := ?_) rfl (by kernel_rfl) (by kernel_rfl) (by kernel_rfl) (fun _ _ _ h => h) (Or.inl ⟨by kernel_rfl, ?_⟩) (by assumption) ?_
                rotate_left
                · (intro w hSw; (try dsimp only at hSw); go_simp; try with_reducible rfl)
                (try simp only [Act.put, List.setIfInBounds_toArray, List.set_cons_zero, List.set_cons_succ])
                refine wpAnyH_take (i := 7) (oi := ⟨some 123, _, _, _, _, _⟩) (v := ?_) rfl (by kernel_rfl) (by kernel_rfl) (by kernel_rfl) (fun _ _ _ h => h) (Or.inl ⟨by kernel_rfl, ?_⟩) (by assumption) ?_
                rotate_left
                · (intro w hSw; (try dsimp only at hSw); go_simp; try with_reducible rfl)
                (try simp only [Act.put, List.setIfInBounds_toArray, List.set_cons_zero, List.set_cons_succ])
                refine wpAnyH_ready (rs := [8]) (by kernel_rfl) (by simp) ?_
                refine AllReadyH.cons (o := ⟨some 124, _, _, _, _, _⟩) rfl (fun K hK => ?_) AllReadyH.nil
                rw [if_pos (by kernel_rfl)]
                go_simp
                go_at_call 16; refine (refTbSame_any x A1 B1 A2 B2 c1 d1 c2 d2 _ (hi1.keep hdr) (hi2.keep hdr) (hs1.keep hdr) (hs2.keep hdr)).mono ?_; rintro e wq ⟨rfl, hbr⟩
                refine hK.out _ _ ?_ (fun hHeld => ?_)
                · exact ⟨(hbr.cell (p := ⟨ba, oa + i * 3, none⟩) lba).trans g0, (hbr.cell (p := ⟨ba, oa + i * 3 + 1, none⟩) lba).trans g1, (hbr.cell (p := ⟨ba, oa + i * 3 + 2, none⟩) lba).trans g2, (hbr.cell (p := ⟨bb, ob + i * 3, none⟩) lbb).trans k0, (hbr.cell (p := ⟨bb, ob + i * 3 + 1, none⟩) lbb).trans k1, (hbr.cell (p := ⟨bb, ob + i * 3 + 2, none⟩) lbb).trans k2⟩
                clear hK K
                (try simp only [Act.put, List.setIfInBounds_toArray, List.set_cons_zero, List.set_cons_succ])
                refine wpAnyH_take (i := 9) (oi := ⟨some 125, _, _, _, _, _⟩) (v := ?_) rfl (by kernel_rfl) (by kernel_rfl) (by kernel_rfl) (fun _ _ _ h => h) (Or.inl ⟨by kernel_rfl, ?_⟩) (by assumption) ?_
                rotate_left
                · (intro w hSw; (try dsimp only at hSw); go_simp; try with_reducible rfl)
                (try simp only [Act.put, List.setIfInBounds_toArray, List.set_cons_zero, List.set_cons_succ])
                refine wpAnyH_done (by kernel_rfl) ?_ _
                have HBQ := Lib.hid (HBW.out.drew.trans (hbr.mono HBW.out.drew.size))
                clear hHeld hbr g0 g1 g2 k0 k1 k2 hi1 hs1 hi2 hs2
                go_wp2_with fail
                go_roundg (N - (i + 1))
                case measure => have := HG.out; omega
                case rel => exact ⟨i + 1, by omega, rfl, by go_num, HBQ.out⟩
              · have hltz : ¬ (i : Int) < (N : Int) := by omega
                clear hbw
                go_wp2_with fail
                refine (HAW.out _).mono ?_
                rintro e wf ⟨rfl, hbf⟩
                have HBE := Lib.hid (HK9.out.trans ((HBW.out.trans (hbf.mono HBW.out.size)).mono HK9.out.size))
                go_wp2_with fail
                go_ret
                exact ⟨rfl, HB1.out.trans (HBE.out.mono HB1.out.size)⟩
          · obtain ⟨w7, hw7⟩ : ∃ w7, wz.setRow Q #[.int .i64 0, .int .u32 0, .slice none 0 0] = w7 := ⟨_, rfl⟩
            have hqq : w7.heap[Q]? = some (.cells #[.int .i64 0, .int .u32 0, .slice none 0 0] 25 (0, 0)) := by rw [← hw7]; exact setRow_heap _ _ _ _ _ _ hqz
            have hk7 : Below w1.heap.size w1 w7 := by rw [← hw7]; exact below_row HKZ.out hQw _
            have HQQ := Lib.hid hqq
            have HK7 := Lib.hid hk7
            have HSM := Lib.hid (refSame_any 0 0 (.slice none 0 0) [] 0 0 (.slice none 0 0) [] w7 (PlsIn.nil _ _) (PlsIn.nil _ _))
            rw [sameB_self] at HSM
            unfold planA at HSM ⊢
            clear hqz hbz hqq hk7 hj hno
            obtain ⟨q0, q1, q2⟩ := three_heads HQQ.out
            go_wp2_with (refine wpList_store_row rfl _ _ _ rfl Q #[.int .i64 0, .int .u32 0, .slice none 0 0] rfl rfl 25 _ HQZ.out (Try.sizePn _ _ _) rfl (one3 _ _ _ _ _) ?_)
            clear hwz hQ hw7
            refine HSM.out.mono ?_
            rintro e w8 ⟨rfl, hb8⟩
            have HK8 := Lib.hid (HK7.out.trans (hb8.mono HK7.out.size))
            clear q0 q1 q2 hb8
            go_wp2_with fail
            refine (HAW.out _).mono ?_
            rintro e wf ⟨rfl, hbf⟩
            have HBE := Lib.hid (HK8.out.trans (hbf.mono HK8.out.size))
            go_wp2_with fail
            go_ret
            exact ⟨rfl, HB1.out.trans (HBE.out.mono HB1.out.size)⟩
end Go.Proofs.Ytpjmdnhoiobedaa

/-
  Proved: a plan of tables is the plan whose tables they are, or there is none; where the reading is of bulk at most 1048576.
  Conditions: none beyond the row's own.
-/
set_option linter.unusedVariables false
namespace Go.Proofs.Ytpjmdnhoiobedaa.tableBack
open Go.ChangeShapes Go.WideShapes Go.ChangeAt Go.RowKit

theorem small {H : Type} {l : List (DataW H)} (hk : Rows.uptoSmall H l = true) : Rows.uptoBulkAll l ≤ 1048576 := of_decide_eq_true hk

set_option maxRecDepth 100000 in
theorem contract (H : Type) (enc : TypeId × Value → H) (W : World) (base : Nat) (args : Array Value) (ds gs : List (DataW H)) (before : List MemPlace)
    (hval0 : ∀ (j : Nat) t v, Try.f4.params[j]? = some t → args[j]? = some v → Value.okWide Try.prog W .any base t v)
    (hW : DataW.Whole enc Try.prog Try.f4.params.toList Rows.tableBackSpec.vars false W args.toList ds gs before) (hk : Rows.uptoSmall H (ds ++ gs) = true) :
    Calls Try.prog 4 args W fun e W' => ∃ v, e = .returned v ∧ Rows.tableBackSpec.post enc Try.prog Try.f4 false true false false W args v W' := by
  have hval : ∀ (j : Nat) t v, Try.f4.params[j]? = some t → args[j]? = some v → Value.okWide Try.prog W .any base t v := hval0
  have hW' := hW
  obtain ⟨p, q, hA0, hV, rfl, hfz, hnd⟩ := hW
  have hA : DataW.TrodAll enc Try.prog W 0 (fun _ => true) true Try.f4.params.toList args.toList ds p := hA0
  rw [Try.params4] at hA hval
  obtain ⟨v0, vs0, d0, ds0, p0, q0, hargs, rfl, rfl, h0, r0⟩ := trodAll_cons hA
  obtain ⟨v1, vs1, d1, ds1, p1, q1, rfl, rfl, rfl, h1, r1⟩ := trodAll_cons r0
  obtain ⟨v2, vs2, d2, ds2, p2, q2, rfl, rfl, rfl, h2, r2⟩ := trodAll_cons r1
  obtain ⟨rfl, rfl, rfl⟩ := trodAll_nil r2
  obtain rfl : args = #[v0, v1, v2] := by cases args; simp_all
  obtain ⟨rfl, rfl⟩ := trodVars_none hV
  have k0 := h0
  have lt0 : ∀ x ∈ p0, x.block < W.heap.size := by obtain ⟨m, hm⟩ := k0; exact DataW.trod_lt m _ _ _ hm
  obtain ⟨f0, m0, u0, l0, rfl, z0, o0, b0, i0⟩ := plan_open (hval 0 25 v0 rfl rfl) h0
  obtain ⟨a1, rfl, rfl, rfl, w1⟩ := open_int Try.underlying3 (hval 1 3 v1 rfl rfl) h1
  obtain ⟨a2, len2, cap2, rfl⟩ := okWide_slice Try.underlying32 (hval 2 32 v2 rfl rfl)
  have k2 := h2
  have lt2 : ∀ x ∈ p2, x.block < W.heap.size := by obtain ⟨m, hm⟩ := k2; exact DataW.trod_lt m _ _ _ hm
  have hb2 : Rows.uptoBulk d2 ≤ 1048576 := by
    have h := small hk
    simp only [List.cons_append, List.nil_append, Rows.uptoBulkAll] at h
    omega
  obtain ⟨l2, z2, o2, s2, n2⟩ : ∃ l : List Tb, TabsAt W (.slice a2 len2 cap2) l ∧ TsOk l ∧ l.length ≤ 1048576 ∧ ticksN l + wantsN l ≤ 1048576 := by
    obtain ⟨fuel, hf⟩ := k2
    exact tabs_open (fuel := fuel) (sv := .slice a2 len2 cap2) hf hb2
  clear hA0 hval0 hk
  refine (back_law f0 m0 u0 l0 a1 (.slice a2 len2 cap2) l2 W z0 o0 b0 z2 o2 (by omega) (fun _ => by omega) (fun n hR L hj => joins_right hR o0 (tabs_ok o0) hj)).mono fun e W' ⟨he, bel⟩ => ?_
  subst he
  exact ⟨_, rfl, _, _, _, [], _, [], hW', trodAll_mk1 (shut_bool Try.underlying4 _), (trodAll_cons_mk (Below.trod Try.laidOut (by kernel_rfl) (of_decide_eq_true (by kernel_rfl)) k0 bel lt0) (trodAll_cons_mk (shut_int Try.underlying3 w1) (trodAll_cons_mk (Below.trod Try.laidOut (by kernel_rfl) (of_decide_eq_true (by kernel_rfl)) k2 bel lt2) trodAll_mk0))), rfl, bel.frame _, fun h => by cases h⟩

set_option maxRecDepth 100000 in
theorem lifted (os : Os) (started : os.Started) (H : Type) (enc : TypeId × Value → H) (F : Stop.Interp) :
    ReturnsInHanded {} Try.checked os 4 .any ((Rows.OpenSpec.upto Rows.tableBackSpec).pre6 enc Try.prog Try.f4 Rows.tableBackUptoRow.domain false) (((Rows.OpenSpec.upto Rows.tableBackSpec).at F).post enc Try.prog Try.f4 false true false false) := by
  refine returnsInHanded_of_cond (C := Try.checked) (s := Rows.OpenSpec.upto Rows.tableBackSpec) (k := Rows.uptoSmall) rfl Try.ownKnob started (by kernel_rfl) Try.func4
    (OpenSpec.witness (enc := enc) (C := Try.checked) (s := Rows.OpenSpec.upto Rows.tableBackSpec) (k := Rows.uptoSmall) rfl false ⟨#[], #[.agg #[.int .i64 0, .int .u32 0, .slice none 0 0], .int .i64 0, .slice none 0 0], []⟩ 8 (by kernel_rfl) (by kernel_rfl) (by kernel_rfl)
      (x := ([.agg [.lit (.int .i64 0), .lit (.int .u32 0), .nil], .lit (.int .i64 0), .nil], [], [])) (by kernel_rfl) rfl (by kernel_rfl)) ?_
  intro W base args ds gs before hval hW _ hk _
  exact contract H enc W base args ds gs before hval hW hk

theorem over : Rows.tableBackUptoRow.holds Try.pinned (Rows.OpenSpec.upto Rows.tableBackSpec) :=
  OpenClaim.holds_of_cond 4 Try.f4 rfl rfl rfl rfl rfl rfl rfl ⟨rfl, rfl, rfl, rfl, rfl⟩ rfl rfl rfl rfl rfl (by kernel_rfl) Try.func4 (by kernel_rfl)
    (of_decide_eq_true (by kernel_rfl)) (by unfold Func.isWrapper; first | (rw [if_pos (by decide +kernel)]; kernel_rfl) | (rw [if_neg (by decide +kernel)]; exact ⟨rfl, rfl⟩))
    (fun os started H enc _ F => lifted os started H enc F)

theorem proved : Rows.TableBackUptoSaid := over
end Go.Proofs.Ytpjmdnhoiobedaa.tableBack
