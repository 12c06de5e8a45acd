/-
  The contracts of package diff, as the laws use them.
  Conditions: both plans are right, and not too much.
-/
import Derived.Test.YtincbilobmhgeaaM15
import Derived.Test.YtincbilobmhgeaaM04
import Derived.Test.YtincbilobmhgeaaM12
import Derived.Test.YtincbilobmhgeaaM13

/-
  Apply of the program.
  Conditions: the slices read as places and as changes, not too many.
-/
set_option linter.unusedVariables false
set_option linter.unusedSimpArgs false
namespace Go.Proofs.Ytincbilobmhgeaa
open Go.RowKit Go.Maps

theorem wp_append_run22 {o : Oper} {a : Act} {w : World} {K : Act → World → Prop} {Q : Exit → Act → World → Prop} (d x : Operand) (dT sT : TypeId) (hop : o.op = Op.call { callee := Callee.builtin Builtin.append, args := #[d, x], argTypes := #[dT, sT] })
    (v u : Value) (hd : a.eval d = v) (hx : a.eval x = u) {v' : Value} {w' : World} (hr : (Builtin.append_ #[dT, sT] o.type #[v, u]).run Try.prog w = .ok v' w') (hK : K (a.put o.dst v') w') : Oper.wp Try.prog o a w K Q := by
  unfold Oper.wp
  simp [execOp, hop, resolve, invoke, builtin, hd, hx, hr, Result.andThen]
  exact hK
theorem box_frozen2 {w : World} {P t o : Nat} {cs : Array Value} (h : w.heap[P]? = some (.cells cs t (0, 0))) : w.frozen? ⟨P, o, none⟩ = false := by
  simp [World.frozen?, h]
/-- append of one place to a row of the call's own. -/
theorem app_pl (W : World) (base : Nat) (F : Nat → Prop) (v : Value) (ls : List Rp) (r : Rp) (N : Nat) (hrow : RowPl W base F v ls) (hN : W.heap[N]? = some (.cells #[.int .i64 r.2.u, .int .i64 r.2.s, .int .i64 r.2.c, rpV r] 37 (0, 0)))
    (hr : PcsIn (fun b => F b ∧ v.ownBlock ≠ some b) W (rpV r) r.2.ps) (hl : ls.length ≤ 5000) (hb : base ≤ W.heap.size) :
    ∃ v' w', (Builtin.append_ #[23, 23] 23 #[v, .slice (some ⟨N, 0, none⟩) 1 1]).run Try.prog W = .ok v' w' ∧ RowPl w' base F v' (ls ++ [r]) ∧ Below base W w' ∧ (∀ b, b < W.heap.size → v.ownBlock ≠ some b → w'.heap[b]? = W.heap[b]?) ∧ W.heap.size ≤ w'.heap.size := by
  obtain ⟨i, hi, hz0, hz1, hz2⟩ := info_parts Try.infoPl
  obtain ⟨v', w', h1, ho, hg, _, hat⟩ := run_append_own_at (P := Try.prog) W base 23 23 37 i (.agg #[.int .i64 0, .int .i64 0, .int .i64 0, .slice none 0 0]) 4 48 Try.underlying23 hi hz0 hz1 hz2 rfl (by decide) v ls.length (rowP ls) hrow.own ⟨N, 0, none⟩ 1 1 (rpCells r) rfl (World.news_of_block hN)
    (by intro u hu; simp [rpCells] at hu; rcases hu with rfl | rfl | rfl | rfl <;> rfl) (by unfold maxLen; omega) (by omega) (by omega)
  exact ⟨v', w', h1, hrow.snoc hr ho hg hat, below_grown5 hg hb (own_base5 hrow.own), fun b hl hne => hg.block b hl fun e => hne e.symm, hg.size⟩
/-- The plan's variable, and all else as it was. -/
structure AtP (w6 W : World) (P : Nat) (f : Int) (m : Nat) (s : Value) : Prop where
  ap : Apart (fun k => k = P) w6 W
  box : W.heap[P]? = some (.cells #[.int .i64 f, .int .u32 m, s] 25 (0, 0))
  lt : P < w6.heap.size
theorem AtP.below {w6 W W' : World} {P : Nat} {f : Int} {m : Nat} {s : Value} (h : AtP w6 W P f m s) (hb : Below w6.heap.size W W') : AtP w6 W' P f m s :=
  ⟨⟨hb.os.trans h.ap.os, hb.tape.trans h.ap.tape, hb.output.trans h.ap.output, Nat.le_trans h.ap.size hb.size, fun k hk hn => (hb.block k hk).trans (h.ap.block k hk hn)⟩, (hb.block P h.lt).trans h.box, h.lt⟩
theorem AtP.store {w6 W : World} {P : Nat} {f : Int} {m : Nat} {s s' : Value} (h : AtP w6 W P f m s) : AtP w6 (W.setCell ⟨P, 2, none⟩ s') P f m s' :=
  ⟨⟨h.ap.os, h.ap.tape, h.ap.output, by simpa [World.setCell] using h.ap.size, fun k hk hn => (Below.heap_setCell _ _ _ _ hn).trans (h.ap.block k hk hn)⟩, heap_setCell_mem _ _ _ _ _ _ _ h.box, h.lt⟩
theorem plan_no {W : World} {R T : Nat} {f : Int} {m : Nat} {v : Value} {A : Option Addr} {n c : Nat} (h : W.heap[R]? = some (.cells #[.int .i64 f, .int .u32 m, .slice A n c] T (0, 0))) : ∀ o i t, W.cell? ⟨R, o, none⟩ = some (.int .i64 i) → W.cell? ⟨R, o + 1, none⟩ ≠ some (.int .u64 t) := by
  intro o i t e1 e2
  simp [World.cell?, h] at e1 e2
  rcases o with _ | _ | _ | o <;> simp at e1 e2
/-- A slice of ints, where all but one other block is as it was. -/
theorem ints_apart {F : Nat → Prop} {w6 W : World} {v : Value} {xs : List Int} (h : IntsAt w6 v xs) (hb : ∀ k, v.ownBlock = some k → ¬ F k) (ha : Apart F w6 W) : IntsAt W v xs := by
  obtain ⟨A, c, rfl, h2, h3⟩ := h
  refine ⟨A, c, rfl, h2, fun hn => ?_⟩
  obtain ⟨b, off, rfl, hlt, hc⟩ := h3 hn
  exact ⟨b, off, rfl, Nat.lt_of_lt_of_le hlt ha.size, fun j x hx => (cell_same (ha.block b hlt (hb b rfl)) _).trans (hc j x hx)⟩
theorem nine_heads {w : World} {P t : Nat} {a b c d e f g h i : Value} (hh : w.heap[P]? = some (.cells #[a, b, c, d, e, f, g, h, i] t (0, 0))) : w.cell? ⟨P, 0, none⟩ = some a ∧ w.cell? ⟨P, 5, none⟩ = some f ∧ w.cell? ⟨P, 6, none⟩ = some g ∧ w.cell? ⟨P, 7, none⟩ = some h ∧ w.cell? ⟨P, 8, none⟩ = some i := by
  refine ⟨?_, ?_, ?_, ?_, ?_⟩ <;> simp [World.cell?, hh]
/-- What Apply answers. -/
def RetApply (f : Int) (m : Nat) (G : Int → Option Pl) (w : World) (e : Ending) (w9 : World) : Prop := ∃ v9 xs, e = .returned (planA f m v9) ∧ Up xs ∧ (∀ u, u ∈ xs ↔ (G u).isSome = true) ∧ PlsAt w9 v9 (xs.map (plF G)) ∧ Below w.heap.size w w9

set_option maxRecDepth 100000 in
set_option maxHeartbeats 8000000 in
theorem diffApply_any (f : Int) (m : Nat) (v vl : Value) (la : List Pl) (l : List Ch) (G : Int → Option Pl) (w : World) (h : PlsAt w v la) (hc : ChsAt w vl l) (hl : la.length ≤ 1000) (hl2 : l.length ≤ 3000) (hu : ∀ x ∈ la, -9223372036854775808 ≤ x.u ∧ x.u ≤ 9223372036854775807)
    (hu2 : ∀ x ∈ l, (-9223372036854775808 ≤ x.1 ∧ x.1 ≤ 9223372036854775807) ∧ (-9223372036854775808 ≤ x.2.2.u ∧ x.2.2.u ≤ 9223372036854775807)) (hG : applyF (idxF la) l = G) (hp : ∀ u, (plF G u).ps.length ≤ 1000) :
    Calls Try.prog 20 #[planA f m v, vl] w (RetApply f m G w) := by
  have mixed : Try.prog.follows .mixedOrders = true := by kernel_rfl
  obtain ⟨w1, P, hw1, hP, hPl, hb1, hpb⟩ := box_any w #[.int .i64 f, .int .u32 m, v] 25
  obtain ⟨w2, R, hw2, hR, hRl, hb2, hrb⟩ := box_any w1 #[.int .i64 0, .int .u32 0, .slice none 0 0] 25
  have HB2 := Lib.hid (hb1.trans (hb2.mono hb1.size))
  have HPB := Lib.hid (keep_block hpb hb2)
  have HRB := Lib.hid hrb
  have HPR := Lib.hid (show w.heap.size ≤ P ∧ P < w2.heap.size ∧ w.heap.size ≤ R ∧ R < w2.heap.size ∧ R ≠ P by have := hb1.size; have := hb2.size; omega)
  have HIX := Lib.hid (index_any f m v la w2 (h.keep HB2.out) hl hu)
  have HCH := Lib.hid (hc.keep HB2.out)
  have HU2 := Lib.hid hu2
  have HG := Lib.hid hG
  have HPL := Lib.hid hp
  obtain ⟨r0, r1, r2⟩ := three_heads HPB.out
  obtain ⟨vlA, vlc, rfl⟩ := hc.form
  obtain ⟨n, hn⟩ : ∃ n, l.length = n := ⟨_, rfl⟩
  obtain ⟨n0, hn0⟩ : ∃ n, la.length = n := ⟨_, rfl⟩
  rw [hn] at hl2 HCH ⊢
  rw [hn0] at hl HIX
  have HN := Lib.hid hn
  obtain ⟨F0, hF0⟩ : ∃ F, idxF la = F := ⟨_, rfl⟩
  rw [hF0] at HIX HG
  unfold planA RetMap at HIX
  have hvf : ∃ A n c, v = .slice A n c := by obtain ⟨A, c, e, _⟩ := h.form; exact ⟨A, _, c, e⟩
  obtain ⟨vA1, vn1, vc1, rfl⟩ := hvf
  unfold planA
  clear h hc hu hu2 hG hp hb1 hb2 hpb hrb hn hn0 hF0
  go_enter Try.func20, Try.ntmps20
  go_wp2_with fail
  refine HIX.out.mono ?_
  rintro e w3 ⟨mb, rfl, hmb, hmx, hb3⟩
  have HMB := Lib.hid hmb
  have HMX := Lib.hid hmx
  have HB3 := Lib.hid hb3
  clear hmb hmx hb3 r0 r1 r2 hw1 hw2 hP hR
  go_wp2_with fail
  go_loopg [14] n (fun gg i wr => ∃ k : Nat, k ≤ n ∧ gg = n - k ∧ i = .int .i64 k ∧ Hid (MapX wr mb (n0 + k) (applyF F0 (l.take k))) ∧ Hid (Below w2.heap.size w2 wr))
  case atStart => exact ⟨0, Nat.zero_le _, by omega, rfl, HMX, HB3⟩
  case round =>
    obtain ⟨k, hk, hg, rfl, HMK, HBW⟩ := hrel
    have HGG := Lib.hid hg
    clear hg
    by_cases hlt : k < n
    · have hltz : (k : Int) < (n : Int) := by omega
      have hk0 : (0 : Int) ≤ (k : Int) := by omega
      obtain ⟨x, hx⟩ := exP_at (xs := l) (k := k) (by rw [HN.out]; exact hlt)
      obtain ⟨hxu, hyu'⟩ := HU2.out x (List.mem_of_getElem? hx)
      have HST := Lib.hid (applyF_take F0 hx)
      obtain ⟨b, off, B1, d1, B2, d2, hAe, hbl, px, py, x0, x1, x2, x3, x4, x5, x6, x7, x8⟩ := (HCH.out.keep HBW.out).at_ hx
      subst hAe
      obtain ⟨cu, ⟨xu, xs, xc, xp⟩, ⟨yu, ys, yc, yp⟩⟩ := x
      simp only at hxu hyu' px py x0 x1 x2 x3 x4 x5 x6 x7 x8 HST
      obtain ⟨xn, hxn⟩ : ∃ n, xp.length = n := ⟨_, rfl⟩
      rw [hxn] at x4
      have HIP := Lib.hid (fun W hw => isPlace_any (.slice B2 yp.length d2) ⟨yu, ys, yc, yp⟩ W hw)
      obtain ⟨bb, hbb⟩ : ∃ bb, isB ⟨yu, ys, yc, yp⟩ = bb := ⟨_, rfl⟩
      rw [hbb] at HIP
      unfold plA at HIP
      simp only at HIP
      have HSTP : Hid (applyF F0 (l.take (k + 1)) = if bb = true then updF (applyF F0 (l.take k)) yu (some ⟨yu, ys, yc, yp⟩) else updF (applyF F0 (l.take k)) cu none) := Lib.hid (by
        rw [HST.out]
        unfold stepF
        show (if isB ⟨yu, ys, yc, yp⟩ = true then _ else _) = _
        rw [hbb])
      obtain ⟨yn, hyn⟩ : ∃ n, yp.length = n := ⟨_, rfl⟩
      rw [hyn] at x8 HIP
      obtain ⟨w4, Y, hw4, hY, hYl, hb4, hyb⟩ := box_any wr #[.int .i64 cu, .int .i64 xu, .int .i64 xs, .int .i64 xc, .slice B1 xn d1, .int .i64 yu, .int .i64 ys, .int .i64 yc, .slice B2 yn d2] 41
      obtain ⟨y0, y5, y6, y7, y8⟩ := nine_heads hyb
      have HYB := Lib.hid hyb
      rw [hyn] at py
      have HPY := Lib.hid (py.keep hb4)
      have HI4 := Lib.hid (HIP.out w4 HPY.out)
      have HB4 := Lib.hid (HBW.out.trans (hb4.mono HBW.out.size))
      have HMK4 := Lib.hid (HMK.out.keep hb4)
      clear hx px py HST hbb hyn hxn hb4 hyb
      go_wp2_with fail
      refine HI4.out.mono ?_
      rintro e w5 ⟨rfl, hb5⟩
      obtain ⟨y0, y5, y6, y7, y8⟩ := nine_heads (keep_block HYB.out hb5)
      have HB5 := Lib.hid (HB4.out.trans (hb5.mono HB4.out.size))
      have HPY5 := Lib.hid (HPY.out.keep hb5)
      obtain ⟨V, D, hF⟩ := HMK4.out.keep hb5
      have HF := Lib.hid hF
      have hout5 := hF.own
      have HMXX := Lib.hid (show n0 + k < maxLen by unfold maxLen; omega)
      clear hb5 hF x0 x1 x2 x3 x4 x5 x6 x7 x8 hw4 hY
      cases bb with
      | true =>
        have HSE : Hid (applyF F0 (l.take (k + 1)) = updF (applyF F0 (l.take k)) yu (some ⟨yu, ys, yc, yp⟩)) := HSTP
        have hkey := key_int yu hyu'.1 hyu'.2
        clear HSTP hxu hyu'
        go_wp2_with (at_mapUpdate; refine wpList_mapUpdate_own _ rfl _ _ _ 57 rfl 3 37 keyedInt Try.underlying57 elemP mb _ _ rfl hout5 HMXX.out _ _ _ rfl rfl hkey _ [] rfl ?_; intro w7 hout7 hg7; go_frame)
        have HM7 : Hid (MapX w7 mb (n0 + (k + 1)) (applyF F0 (l.take (k + 1)))) := Lib.hid (by
          rw [HSE.out]
          exact HF.out.put (v := .slice B2 yn d2) (x := ⟨yu, ys, yc, yp⟩) HPY5.out hout7 hg7)
        have HB7 := Lib.hid (below_map22 HB5.out HMB.out hg7 HB5.out.size)
        clear hout7 hg7
        go_roundg (n - (k + 1))
        case measure => have := HGG.out; omega
        case rel => exact ⟨k + 1, by omega, rfl, by go_num, HM7, HB7⟩
      | false =>
        have HSE : Hid (applyF F0 (l.take (k + 1)) = updF (applyF F0 (l.take k)) cu none) := HSTP
        have hkey := key_int cu hxu.1 hxu.2
        clear HSTP hxu hyu'
        go_wp2_with (at_delete; refine wpList_delete_own _ rfl _ _ 57 3 rfl 37 keyedInt Try.underlying57 elemP mb _ _ rfl hout5 _ _ rfl hkey ?_; intro w7 hout7 hturn7)
        have hg7 := hturn7.grown
        have HM7 : Hid (MapX w7 mb (n0 + (k + 1)) (applyF F0 (l.take (k + 1)))) := Lib.hid (by
          rw [HSE.out]
          exact (HF.out.del hout7 hg7).mono (by omega))
        have HB7 := Lib.hid (below_map22 HB5.out HMB.out hg7 HB5.out.size)
        clear hout7 hg7 hturn7
        go_wp2_with fail
        go_roundg (n - (k + 1))
        case measure => have := HGG.out; omega
        case rel => exact ⟨k + 1, by omega, rfl, by go_num, HM7, HB7⟩
    · have hltz : ¬ (k : Int) < (n : Int) := by omega
      have HKN := Lib.hid (show k = n by omega)
      obtain ⟨wS, rfl⟩ : ∃ wS, wS = wr := ⟨_, rfl⟩
      have HMG : Hid (MapX wS mb (n0 + n) G) := Lib.hid (by
        have h := HMK.out
        rw [HKN.out, show l.take n = l by rw [← HN.out, List.take_length], HG.out] at h
        exact h)
      have HPS := Lib.hid (keep_block HPB.out HBW.out)
      have HRS := Lib.hid (keep_block HRB.out HBW.out)
      obtain ⟨r0, r1, r2⟩ := three_heads HPS.out
      have z2 := box_frozen2 (o := 2) HPS.out
      have HA5 : Hid (AtP wS (wS.setCell ⟨P, 2, none⟩ (.slice none 0 0)) P f m (.slice none 0 0)) := Lib.hid (AtP.store (s := .slice vA1 vn1 vc1) ⟨Apart.refl _ _, HPS.out, heap_lt HPS.out⟩)
      have hmne := map_ne_box HMG.out HPS.out
      obtain ⟨w5, hw5⟩ : ∃ W, wS.setCell ⟨P, 2, none⟩ (.slice none 0 0) = W := ⟨_, rfl⟩
      rw [hw5] at HA5
      have HMG5 : Hid (MapX w5 mb (n0 + n) G) := Lib.hid (HMG.out.keepR HA5.out.ap.size (fun b hb hn => HA5.out.ap.block b hb hn) (plan_no (v := .slice none 0 0) HPS.out) hmne)
      have HRI := Lib.hid (rising_any mb (n0 + n) G w5 HMG5.out (by omega))
      clear hmne
      go_wp2_with fail
      clear hw5 r0 r1 r2 z2
      refine HRI.out.mono ?_
      rintro e w6 ⟨vx, xs, rfl, hup, hin, hbd, hlen, hint, hxo, hb6⟩
      obtain ⟨xA, xcap, rfl, _, _⟩ := id hint
      have HUP := Lib.hid hup
      have HIN := Lib.hid hin
      have HBD := Lib.hid hbd
      have HINT := Lib.hid hint
      have HM6 := Lib.hid (HMG5.out.keep hb6)
      have HP6 : Hid (w6.heap[P]? = some (.cells #[.int .i64 f, .int .u32 m, .slice none 0 0] 25 (0, 0))) := Lib.hid (keep_block HA5.out.box hb6)
      have HR6 : Hid (w6.heap[R]? = some (.cells #[.int .i64 0, .int .u32 0, .slice none 0 0] 25 (0, 0))) := Lib.hid (keep_block ((HA5.out.ap.block R (heap_lt HRS.out) HPR.out.2.2.2.2).trans HRS.out) hb6)
      have HXO : Hid (∀ k, (Value.slice xA xs.length xcap).ownBlock = some k → ¬ k = P) := Lib.hid (fun k hk e => by
        have h1 := hxo k hk
        have h2 := heap_lt HA5.out.box
        omega)
      have HB6 : Hid (Below w.heap.size w w6) := Lib.hid (by
        have h1 := HB2.out.trans (HBW.out.mono HB2.out.size)
        have h2 : Below w.heap.size w w5 := ⟨HA5.out.ap.os.trans h1.os, HA5.out.ap.tape.trans h1.tape, HA5.out.ap.output.trans h1.output, Nat.le_trans h1.size HA5.out.ap.size, fun k hk => (HA5.out.ap.block k (Nat.lt_of_lt_of_le hk h1.size) (fun e => by have := HPR.out.1; omega)).trans (h1.block k hk)⟩
        exact h2.trans (hb6.mono h2.size))
      obtain ⟨nx, hnx⟩ : ∃ n, xs.length = n := ⟨_, rfl⟩
      rw [hnx] at hlen HINT HXO ⊢
      have HNX := Lib.hid hnx
      have hnx2 : nx ≤ 4000 := by omega
      clear hup hin hbd hlen hint hxo hb6 hnx
      go_wp2_with fail
      go_loopg [35] nx (fun gg i wr => ∃ (k : Nat) (s : Value) (ls : List Rp), k ≤ nx ∧ gg = nx - k ∧ i = .int .i64 k ∧ Hid (plsR ls = (xs.take k).map (plF G)) ∧ Hid (AtP w6 wr P f m s) ∧ Hid (RowPl wr w6.heap.size (fun b => w6.heap.size ≤ b) s ls))
      case atStart => exact ⟨0, _, [], Nat.zero_le _, by omega, rfl, Lib.hid rfl, Lib.hid ⟨Apart.refl _ _, HP6.out, heap_lt HP6.out⟩, Lib.hid (RowPl.nil _ _ _)⟩
      case round =>
        obtain ⟨k2, s, ls, hk2, hg2, rfl, HLS, HAP, HRW⟩ := hrel
        have HG2 := Lib.hid hg2
        clear hg2
        obtain ⟨sA, sc, rfl⟩ := own_form HRW.out.own
        obtain ⟨t0, t1, t2⟩ := three_heads HAP.out.box
        by_cases hlt2 : k2 < nx
        · have hltz2 : (k2 : Int) < (nx : Int) := by omega
          have hk02 : (0 : Int) ≤ (k2 : Int) := by omega
          obtain ⟨u, hu⟩ := exP_at (xs := xs) (k := k2) (by rw [HNX.out]; exact hlt2)
          have hub := HBD.out u (List.mem_of_getElem? hu)
          obtain ⟨A', c', e1, _, h3⟩ := ints_apart HINT.out HXO.out HAP.out.ap
          injection e1 with e1 e2 e3
          subst e1
          obtain ⟨b, off, e4, hbl, hcell⟩ := h3 (by rw [HNX.out]; omega)
          subst e4
          have x0 := hcell k2 u hu
          have HTK : Hid (xs.take (k2 + 1) = xs.take k2 ++ [u]) := Lib.hid (by rw [List.take_add_one, hu]; rfl)
          have hle : ls.length ≤ 5000 := by
            rw [← plsR_length, HLS.out, List.length_map, List.length_take]
            omega
          have hM : ∀ W, Apart (fun k => k = P) w6 W → MapX W mb (n0 + n) G := fun W ha => HM6.out.keepR ha.size (fun b hb hn => ha.block b hb hn) (plan_no (v := .slice none 0 0) HP6.out) (map_ne_box HM6.out HP6.out)
          obtain ⟨V6, D6, F6⟩ := HM6.out
          obtain ⟨z, hz⟩ : ∃ z, plF G u = z := ⟨_, rfl⟩
          have pz := F6.pcs u
          rw [hz] at pz
          obtain ⟨zA, zd, hvz⟩ := pz.form
          rw [hvz] at pz
          have hzl := HPL.out u
          rw [hz] at hzl
          have HZ := Lib.hid hz
          have HPZ : Hid (∀ W, Apart (fun k => k = P) w6 W → PcsAt W (.slice zA z.ps.length zd) z.ps) := Lib.hid (fun W ha => ((pcs_no (plan_no (v := .slice none 0 0) HP6.out) pz).keepF ha.size fun b hb hn => ha.block b hb hn).any)
          have HCZ := Lib.hid (fun W hw => cloneD_any (.slice zA z.ps.length zd) z W hw hzl)
          unfold RetPl plA at HCZ
          obtain ⟨zn, hzn⟩ : ∃ n, z.ps.length = n := ⟨_, rfl⟩
          obtain ⟨zu, hzu⟩ : ∃ n, z.u = n := ⟨_, rfl⟩
          obtain ⟨zs, hzs⟩ : ∃ n, z.s = n := ⟨_, rfl⟩
          obtain ⟨zc, hzc⟩ : ∃ n, z.c = n := ⟨_, rfl⟩
          rw [hzn, hzu, hzs, hzc] at HCZ
          have HZF := Lib.hid (⟨hzu, hzs, hzc⟩ : z.u = zu ∧ z.s = zs ∧ z.c = zc)
          have HLK : Hid (∀ W, Apart (fun k => k = P) w6 W → (Instr.lookup 57 (.map (some mb)) (.int .i64 u) false).run Try.prog W = .ok (.agg #[.int .i64 zu, .int .i64 zs, .int .i64 zc, .slice zA zn zd]) W) := Lib.hid (fun W ha => by
            have ho : Own22 W mb (n0 + n) D6 := own22_keep F6.own (ha.block mb F6.own.lt (map_ne_box HM6.out HP6.out))
            obtain ⟨v', ps', hrun, hv'⟩ := ho.lookup keyedInt Try.underlying57 (zeroPlV W) (zd := .held zeroPA) (zp := []) rfl (key_int u hub.1 hub.2)
            rw [F6.val u] at hv'
            have e : v' = plA (V6 u) (plF G u) := by
              have e := Option.some.inj hv'
              simp only [Prod.mk.injEq] at e
              exact DataW.held.inj e.1
            rw [hrun, e, hvz, hz]
            unfold plA
            rw [hzn, hzu, hzs, hzc])
          rw [hzn] at HPZ
          have HCL : Hid (∀ W, AtP w6 W P f m (.slice sA ls.length sc) → Calls Try.prog 34 #[.agg #[.int .i64 zu, .int .i64 zs, .int .i64 zc, .slice zA zn zd]] W (fun e w' => ∃ v, e = .returned (.agg #[.int .i64 zu, .int .i64 zs, .int .i64 zc, v]) ∧ PcsIn (fun b => W.heap.size ≤ b) w' v z.ps ∧ Below W.heap.size W w')) := Lib.hid (fun W ha => HCZ.out W (HPZ.out W ha.ap))
          have HS2 : Hid (∀ W, AtP w6 W P f m (.slice sA ls.length sc) → W.cell? ⟨P, 2, none⟩ = some (.slice sA ls.length sc) ∧ (Instr.lookup 57 (.map (some mb)) (.int .i64 u) false).run Try.prog W = .ok (.agg #[.int .i64 zu, .int .i64 zs, .int .i64 zc, .slice zA zn zd]) W) := Lib.hid (fun W ha => ⟨(three_heads ha.box).2.2, HLK.out W ha.ap⟩)
          have ha0 : AtP w6 wr.drew P f m (.slice sA ls.length sc) := HAP.out.below (Below.refl _ _).drew
          clear e2 e3 h3 hcell hu hub F6 hz pz hvz hzl hzn hzu hzs hzc hM t0 t1 t2
          go_wp2_with fail
          refine wp_region_N (S1 := fun w' => True) (S2 := fun w' => w'.cell? ⟨P, 2, none⟩ = some (.slice sA ls.length sc) ∧ (Instr.lookup 57 (.map (some mb)) (.int .i64 u) false).run Try.prog w' = .ok (.agg #[.int .i64 zu, .int .i64 zs, .int .i64 zc, .slice zA zn zd]) w') (N := fun i => i != 9) (by kernel_rfl) ?_
          change wpAnyN _ _ _ _ _ _ _ 10 (Array.replicate 10 false) _ _
          refine wpAnyN_take false (i := 0) (oi := ⟨some 39, _, _, _, _, _⟩) (v := ?_) rfl (by kernel_rfl) (by kernel_rfl) (by kernel_rfl) (fun _ _ _ h => h) (Or.inl ⟨by kernel_rfl, ?_⟩) ⟨trivial, fun h => (by cases h)⟩ ?_
          rotate_left
          · (intro w hSw; obtain ⟨hSa, hSb⟩ := hSw; clear hSb; (try dsimp only at hSa); go_simp; try with_reducible rfl)
          (try simp only [Act.put, List.setIfInBounds_toArray, List.set_cons_zero, List.set_cons_succ])
          refine wpAnyN_take true (i := 1) (oi := ⟨some 40, _, _, _, _, _⟩) (v := ?_) rfl (by kernel_rfl) (by kernel_rfl) (by kernel_rfl) (fun _ _ _ h => h) (Or.inl ⟨by kernel_rfl, ?_⟩) ⟨trivial, fun _ => HS2.out _ ha0⟩ ?_
          rotate_left
          · (intro w hSw; obtain ⟨hSa, hSb⟩ := hSw; have hSc := hSb rfl; clear hSb; (try dsimp only at hSa hSc); go_simp; try with_reducible rfl)
          (try simp only [Act.put, List.setIfInBounds_toArray, List.set_cons_zero, List.set_cons_succ])
          refine wpAnyN_take false (i := 2) (oi := ⟨some 41, _, _, _, _, _⟩) (v := ?_) rfl (by kernel_rfl) (by kernel_rfl) (by kernel_rfl) (fun _ _ _ h => h) (Or.inl ⟨by kernel_rfl, ?_⟩) ⟨trivial, fun h => (by cases h)⟩ ?_
          rotate_left
          · (intro w hSw; obtain ⟨hSa, hSb⟩ := hSw; clear hSb; (try dsimp only at hSa); go_simp; try with_reducible rfl)
          (try simp only [Act.put, List.setIfInBounds_toArray, List.set_cons_zero, List.set_cons_succ])
          refine wpAnyN_take false (i := 3) (oi := ⟨some 42, _, _, _, _, _⟩) (v := ?_) rfl (by kernel_rfl) (by kernel_rfl) (by kernel_rfl) (fun _ _ _ h => h) (Or.inl ⟨by kernel_rfl, ?_⟩) ⟨trivial, fun h => (by cases h)⟩ ?_
          rotate_left
          · (intro w hSw; obtain ⟨hSa, hSb⟩ := hSw; clear hSb; (try dsimp only at hSa); go_simp; try with_reducible rfl)
          (try simp only [Act.put, List.setIfInBounds_toArray, List.set_cons_zero, List.set_cons_succ])
          refine wpAnyN_take true (i := 4) (oi := ⟨some 43, _, _, _, _, _⟩) (v := ?_) rfl (by kernel_rfl) (by kernel_rfl) (by kernel_rfl) (fun _ _ _ h => h) (Or.inl ⟨by kernel_rfl, ?_⟩) ⟨trivial, fun _ => HS2.out _ ha0⟩ ?_
          rotate_left
          · (intro w hSw; obtain ⟨hSa, hSb⟩ := hSw; have hSc := hSb rfl; clear hSb; (try dsimp only at hSa hSc); go_simp; try with_reducible rfl)
          (try simp only [Act.put, List.setIfInBounds_toArray, List.set_cons_zero, List.set_cons_succ])
          refine wpAnyN_step (i := 5) (by kernel_rfl) rfl (by kernel_rfl) ?_
          intro K' hK
          (try simp only [Act.put, List.setIfInBounds_toArray, List.set_cons_zero, List.set_cons_succ])
          go_simp
          go_at_call 34; refine (HCL.out _ ha0).mono ?_; rintro e wq1 ⟨v5, rfl, hp5, hb1⟩
          obtain ⟨A5, d5, rfl⟩ := hp5.form
          have ha1 := ha0.below (hb1.mono ha0.ap.size)
          refine hK.out _ _ (trivial) (fun _ _ => HS2.out _ ha1) ?_
          clear hK K'
          (try simp only [Act.put, List.setIfInBounds_toArray, List.set_cons_zero, List.set_cons_succ])
          refine wpAnyN_step (i := 6) (by kernel_rfl) rfl (by kernel_rfl) ?_
          intro K' hK
          (try simp only [Act.put, List.setIfInBounds_toArray, List.set_cons_zero, List.set_cons_succ])
          obtain ⟨wq2, N, hwN, hNe, hNl, hb2, hNb⟩ := box_any wq1 #[.int .i64 zu, .int .i64 zs, .int .i64 zc, .slice A5 z.ps.length d5] 37
          have ha2 := ha1.below (hb2.mono ha1.ap.size)
          go_simp
          refine hK.out _ _ (trivial) (fun _ _ => HS2.out _ ha2) ?_
          clear hK K'
          (try simp only [Act.put, List.setIfInBounds_toArray, List.set_cons_zero, List.set_cons_succ])
          clear hwN
          refine wpAnyN_step (i := 7) (by kernel_rfl) rfl (by kernel_rfl) ?_
          intro K' hK
          (try simp only [Act.put, List.setIfInBounds_toArray, List.set_cons_zero, List.set_cons_succ])
          have hown9 : ∀ b, (Value.slice sA ls.length sc).ownBlock = some b → b < wr.heap.size := fun b hb => own_lt HRW.out.own hb
          have hrr : PcsIn (fun b => w6.heap.size ≤ b ∧ (Value.slice sA ls.length sc).ownBlock ≠ some b) wq2 (.slice A5 z.ps.length d5) z.ps := (hp5.keep hb2).mono fun b _ hF => ⟨by have hF : wr.drew.heap.size ≤ b := hF; have := ha0.ap.size; omega, fun e => by have := hown9 b e; have hF : wr.drew.heap.size ≤ b := hF; have h8 : wr.drew.heap.size = wr.heap.size := rfl; omega⟩
          have hb02 : Below wr.heap.size wr wq2 := ((Below.refl _ wr).drew.trans (hb1.mono (Nat.le_refl _))).trans (hb2.mono hb1.size)
          obtain ⟨v9, w9, hrun, hrow9, hb9, hk9, hs9⟩ := app_pl wq2 w6.heap.size (fun b => w6.heap.size ≤ b) (.slice sA ls.length sc) ls ((A5, d5), z) N (HRW.out.keep hb02) (by rw [HZF.out.1, HZF.out.2.1, HZF.out.2.2]; exact hNb) hrr hle ha2.ap.size
          have ha3 := ha2.below hb9
          have z3 := box_frozen2 (o := 2) ha3.box
          obtain ⟨b30, b31, b32⟩ := three_heads ha3.box
          refine wp_append_run22 _ _ 23 23 rfl _ _ (by simp [Act.eval, Act.put]) (by simp [Act.eval, Act.put]) hrun ?_
          refine hK.out _ _ (trivial) (fun _ _ => HS2.out _ ha3) ?_
          clear hK K'
          (try simp only [Act.put, List.setIfInBounds_toArray, List.set_cons_zero, List.set_cons_succ])
          obtain ⟨A9, c9, hv9⟩ := own_form hrow9.own
          subst hv9
          have hl1 : (ls ++ [((A5, d5), z)]).length = ls.length + 1 := by simp
          rw [hl1] at hrow9 ⊢
          clear hl1
          refine wpAnyN_take false (i := 8) (oi := ⟨some 47, _, _, _, _, _⟩) (v := ?_) rfl (by kernel_rfl) (by kernel_rfl) (by kernel_rfl) (fun _ _ _ h => h) (Or.inl ⟨by kernel_rfl, ?_⟩) ⟨trivial, fun h => (by cases h)⟩ ?_
          rotate_left
          · (intro w hSw; obtain ⟨hSa, hSb⟩ := hSw; clear hSb; (try dsimp only at hSa); go_simp; try with_reducible rfl)
          (try simp only [Act.put, List.setIfInBounds_toArray, List.set_cons_zero, List.set_cons_succ])
          refine wpAnyN_step (i := 9) (by kernel_rfl) rfl (by kernel_rfl) ?_
          intro K' hK
          (try simp only [Act.put, List.setIfInBounds_toArray, List.set_cons_zero, List.set_cons_succ])
          go_simp
          refine hK.out _ _ (trivial) (fun h => by cases h) ?_
          clear hK K'
          (try simp only [Act.put, List.setIfInBounds_toArray, List.set_cons_zero, List.set_cons_succ])
          refine wpAnyN_done (by kernel_rfl) ?_
          have HA9 : Hid (AtP w6 (w9.setCell ⟨P, 2, none⟩ (.slice A9 (ls.length + 1) c9)) P f m (.slice A9 (ls.length + 1) c9)) := Lib.hid ha3.store
          have HR9 : Hid (RowPl (w9.setCell ⟨P, 2, none⟩ (.slice A9 (ls.length + 1) c9)) w6.heap.size (fun b => w6.heap.size ≤ b) (.slice A9 (ls.length + 1) c9) (ls ++ [((A5, d5), z)])) := Lib.hid (hrow9.at_base (Nat.le_refl _) (by simp [World.setCell]) fun b hb => Below.heap_setCell _ _ _ _ (show b ≠ P by have := ha3.lt; omega))
          clear hrow9 hb9 hk9 hs9 ha3 ha2 ha1 ha0
          go_wp2_with fail
          go_roundg (nx - (k2 + 1))
          case measure => have := HG2.out; omega
          case rel => exact ⟨k2 + 1, _, ls ++ [((A5, d5), z)], by omega, rfl, by go_num, Lib.hid (by rw [plsR_snoc, HLS.out, HTK.out, List.map_append]; show _ ++ [z] = _ ++ [plF G u]; rw [HZ.out]), HA9, HR9⟩
        · have hltz2 : ¬ (k2 : Int) < (nx : Int) := by omega
          have HKN2 := Lib.hid (show k2 = nx by omega)
          have HRR : Hid (wr.heap[R]? = some (.cells #[.int .i64 0, .int .u32 0, .slice none 0 0] 25 (0, 0))) := Lib.hid ((HAP.out.ap.block R (heap_lt HR6.out) HPR.out.2.2.2.2).trans HR6.out)
          go_wp2_with (refine wpList_store_row rfl _ _ _ rfl R #[.int .i64 f, .int .u32 m, .slice sA ls.length sc] rfl rfl 25 _ HRR.out (Try.sizePn _ _ _) rfl (one3 _ _ _ _ _) ?_)
          refine bodyPost_ret (v := planA f m (.slice sA ls.length sc)) (results_cell_row rfl _ _ R _ _ _ _ rfl (setRow_heap _ _ _ _ _ _ HRR.out) Try.underlying25 rfl (Try.sizePn _ _ _)) rfl ?_
          have e1 : xs.take k2 = xs := by rw [HKN2.out, ← HNX.out, List.take_length]
          have hls := HLS.out
          rw [e1] at hls
          have hpn := pls_of_own HRW.out.own (HRW.out.pcs.mono (G := fun b => w6.heap.size ≤ b) fun b _ hF => hF.1)
          rw [hls] at hpn
          have hlt4 := heap_lt HR6.out
          refine ⟨_, xs, rfl, HUP.out, HIN.out, (PlsIn.setRow (hpn.mono fun b _ h => (h.elim id id : w6.heap.size ≤ b)) (.inl (show ¬ w6.heap.size ≤ R by omega))).any, ?_⟩
          have hbz : Below w.heap.size w wr := ⟨HAP.out.ap.os.trans HB6.out.os, HAP.out.ap.tape.trans HB6.out.tape, HAP.out.ap.output.trans HB6.out.output, Nat.le_trans HB6.out.size HAP.out.ap.size, fun k hk => (HAP.out.ap.block k (Nat.lt_of_lt_of_le hk HB6.out.size) (fun e => by have := HPR.out.1; omega)).trans (HB6.out.block k hk)⟩
          exact below_row hbz HPR.out.2.2.1 _
end Go.Proofs.Ytincbilobmhgeaa

/-
  Lists of ints held against each other; replies held against each other: the program's Same and the document's.
  Conditions: none.
-/
set_option linter.unusedVariables false
namespace Go.Proofs.Ytincbilobmhgeaa
open Go.RowKit

def SameRel (xs ys : List Int) (w : World) (g : Nat) (i : Value) (wr : World) : Prop := ∃ k : Nat, k ≤ xs.length ∧ g = xs.length - k ∧ i = .int .i64 k ∧ xs.take k = ys.take k ∧ Below w.heap.size w wr

theorem exI_at {xs : List Int} {k : Nat} (h : k < xs.length) : ∃ x, xs[k]? = some x := ⟨_, List.getElem?_eq_getElem h⟩

theorem take_same {xs ys : List Int} {k : Nat} {x y : Int} (h : xs.take k = ys.take k) (hx : xs[k]? = some x) (hy : ys[k]? = some y) (e : x = y) : xs.take (k + 1) = ys.take (k + 1) := by
  rw [List.take_add_one, List.take_add_one, h, hx, hy, e]

theorem differ {xs ys : List Int} {k : Nat} {x y : Int} (hx : xs[k]? = some x) (hy : ys[k]? = some y) (e : x ≠ y) : xs ≠ ys := by
  rintro rfl
  rw [hx] at hy
  exact e (Option.some.inj hy)

set_option maxHeartbeats 1000000 in
theorem refInts_any (xs ys : List Int) (u v : Value) (w : World) (hs : IntsAt w u xs) (ht : IntsAt w v ys) :
    Calls Try.prog 9 #[u, v] w (RetB (.bool (decide (xs = ys))) w) := by
  obtain ⟨A, c, rfl, hl, hat⟩ := hs
  obtain ⟨B, d, rfl, hm, hbt⟩ := ht
  have HA := Lib.hid hat
  have HB := Lib.hid hbt
  clear hat hbt
  by_cases hne : xs.length = ys.length
  · have HN := Lib.hid hne
    have hn1 : ((xs.length : Int) == (ys.length : Int)) = true := by simp; omega
    have hn2 : ((xs.length : Int) != (ys.length : Int)) = false := by simp; omega
    clear hne
    obtain ⟨m, hm'⟩ : ∃ m, m = ys.length := ⟨_, rfl⟩
    rw [← hm'] at hm hn1 hn2 HN ⊢
    have HM := Lib.hid hm'
    clear hm'
    go_enter Try.func9, Try.ntmps9
    go_wp2_with fail
    go_loopg [5] xs.length (fun g i wr => SameRel xs ys w g i wr)
    case atStart => exact ⟨0, Nat.zero_le _, rfl, rfl, rfl, Below.refl _ _⟩
    case round =>
      obtain ⟨k, hk, hg, rfl, htk, hbw⟩ := hrel
      have HG := Lib.hid hg
      have HT := Lib.hid htk
      have HW := Lib.hid hbw
      clear hg htk hbw
      by_cases hlt : k < xs.length
      · obtain ⟨x, hx⟩ := exI_at hlt
        obtain ⟨y, hy⟩ := exI_at (xs := ys) (k := k) (by have := HN.out; have := HM.out; omega)
        obtain ⟨b, off, rfl, hb, hc⟩ := HA.out (by omega)
        obtain ⟨b', off', rfl, hb', hc'⟩ := HB.out (by have := HN.out; have := HM.out; omega)
        have hck : wr.cell? ⟨b, off + k, none⟩ = some (.int .i64 x) := (HW.out.cell (p := ⟨b, off + k, none⟩) hb).trans (hc k x hx)
        have hck' : wr.cell? ⟨b', off' + k, none⟩ = some (.int .i64 y) := (HW.out.cell (p := ⟨b', off' + k, none⟩) hb').trans (hc' k y hy)
        have hkm : k < m := by have := HN.out; omega
        have HX := Lib.hid hx
        have HY := Lib.hid hy
        clear hc hc' hx hy
        by_cases hxy : x = y
        · have HE := Lib.hid hxy
          have hxy' : (x == y) = true := by simpa using hxy
          have hxy'' : (x != y) = false := by simpa using hxy
          clear hxy
          go_wp2_with fail
          go_quiet (fail)
          go_wp2_with fail
          go_roundg (xs.length - (k + 1))
          case measure => have := HG.out; omega
          case rel => exact ⟨k + 1, by omega, rfl, by go_num, take_same HT.out HX.out HY.out HE.out, below_drewN HW.out _⟩
        · have E := Lib.hid (decide_eq_false (differ HX.out HY.out hxy))
          have hxy' : (x == y) = false := by simpa using hxy
          have hxy'' : (x != y) = true := by simpa using hxy
          clear hxy
          go_wp2_with fail
          go_quiet (fail)
          go_wp2_with fail
          go_ret
          exact ⟨ret_bool E.out.symm, below_drewN HW.out _⟩
      · have E := Lib.hid (decide_eq_true (show xs = ys by
          have := HT.out
          rwa [List.take_of_length_le (by omega), List.take_of_length_le (by have := HN.out; have := HM.out; omega)] at this))
        go_wp2_with fail
        go_ret
        exact ⟨ret_bool E.out.symm, HW.out⟩
  · have E := Lib.hid (decide_eq_false (show ¬ xs = ys from fun e => hne (by rw [e])))
    have hn1 : ((xs.length : Int) == (ys.length : Int)) = false := by simp; omega
    have hn2 : ((xs.length : Int) != (ys.length : Int)) = true := by simp; omega
    clear hne
    go_enter Try.func9, Try.ntmps9
    go_wp2_with fail
    go_ret
    exact ⟨ret_bool E.out.symm, Below.refl _ _⟩
end Go.Proofs.Ytincbilobmhgeaa

/-
  The contracts of package diff, as the laws use them.
  Conditions: both plans are right, and not too much.
-/
set_option linter.unusedVariables false
set_option linter.unusedSimpArgs false
namespace Go.Proofs.Ytincbilobmhgeaa
open Go.RowKit Go.Maps

theorem chgL_length (la lb : List Pl) : (chgL la lb).length = (listU 4 la lb).length := by unfold chgL; rw [List.length_map]
theorem listU_le (k : Nat) (la lb : List Pl) : (listU k la lb).length ≤ 1040 := by
  unfold listU unitsU
  refine Nat.le_trans (List.length_filter_le _ _) (Nat.le_trans (List.length_filter_le _ _) ?_)
  unfold allU
  rw [List.length_map, List.length_range]
  exact Nat.le_refl _
/-- How many changes a call answers. -/
def RetChL (l : List Int) (w : World) (e : Ending) (w9 : World) : Prop := ∃ A c, e = .returned (.slice A l.length c) ∧ Below w.heap.size w w9
theorem diffChanges_any (f1 f2 : Int) (m1 m2 : Nat) (v1 v2 : Value) (la lb : List Pl) (w : World) (h1 : PlsAt w v1 la) (h2 : PlsAt w v2 lb) (hL1 : LightL la) (hL2 : LightL lb) (hr1 : Right f1 m1 la) (hr2 : Right f2 m2 lb) : Calls Try.prog 15 #[planA f1 m1 v1, planA f2 m2 v2] w (RetChL (listU 4 la lb) w) := by
  refine (diffChangesG_any f1 f2 f1 f2 m1 m2 m1 m2 v1 v2 la lb w h1 h2 hL1 hL2 hr1 hr2).mono ?_
  rintro e w9 ⟨A, c, rfl, _, hb⟩
  rw [chgL_length]
  exact ⟨A, c, rfl, hb⟩
theorem placeU_unit {f : Int} {m : Nat} {l : List Pl} (h : Right f m l) (u : Int) : 0 ≤ (placeU l u).u ∧ (placeU l u).u ≤ 1040 := by
  unfold placeU
  cases hx : findU l u with
  | none => exact ⟨by decide, by decide⟩
  | some x =>
    have h1 := (h.place x (find_mem hx).1).unit
    simp [isU] at h1
    show 0 ≤ x.u ∧ x.u ≤ 1040
    omega
/-- What a call answers: a plan of these places. -/
def RetPlb (f : Int) (m : Nat) (l : List Pl) (w : World) (e : Ending) (w9 : World) : Prop := ∃ A c, e = .returned (.agg #[.int .i64 f, .int .u32 m, .slice A l.length c]) ∧ PlsAt w9 (.slice A l.length c) l ∧ Below w.heap.size w w9
/-- All changes, made: the other plan's places. -/
theorem diffApplyC_any (f g1 g2 : Int) (m n1 n2 : Nat) (v vl : Value) (la lb : List Pl) (w : World) (h : PlsAt w v la) (hc : ChsAt w vl (chgL la lb)) (hL1 : LightL la) (hL2 : LightL lb) (hr1 : Right g1 n1 la) (hr2 : Right g2 n2 lb) :
    Calls Try.prog 20 #[planA f m v, vl] w (RetPlb f m lb w) := by
  refine (diffApply_any f m v vl la (chgL la lb) (idxF lb) w h hc (by have := hL1.len; omega) (by rw [chgL_length]; have := listU_le 4 la lb; omega) (fun x hx => (hL1.ok x hx).1.1) (fun x hx => ?_) (apply_back hr1 hr2) (fun u => pl_small hr2 hL2 u)).mono ?_
  · unfold chgL at hx
    obtain ⟨u, hu, rfl⟩ := List.mem_map.1 hx
    have h1 := (mem_listU.1 hu).1
    have h2 := placeU_unit hr2 u
    exact ⟨⟨by show _ ≤ u; omega, by show u ≤ _; omega⟩, ⟨by show _ ≤ (placeU lb u).u; omega, by show (placeU lb u).u ≤ _; omega⟩⟩
  · rintro e w9 ⟨v9, xs, rfl, hup, hin, hpl, hb⟩
    rw [places_back hr2 hup hin] at hpl
    obtain ⟨A, c, rfl, _, _⟩ := hpl.form
    exact ⟨A, c, rfl, hpl, hb⟩
end Go.Proofs.Ytincbilobmhgeaa
