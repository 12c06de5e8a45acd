/-
  A law on regions whose order is open: a load may be taken first where every operation that could come before it leaves the loaded cells as they are, though a store that waits for all loads writes them.
  Conditions: those of each law. The condition S is shown anew behind the operations that N names, not behind the others.
-/
import Derived.Test.YtincbilobmhgeaaM03
import Derived.Test.YtincbilobmhgeaaM14
import Derived.Test.YtincbilobmhgeaaM12
import Derived.OrdersHeld
import Derived.WalkKit
import Derived.Deep.RegionHeld

/-
  clone of the program: a place with pieces of its own.
  Conditions: the value reads as a place, of not too many pieces.
-/
set_option linter.unusedVariables false
set_option linter.unusedSimpArgs false
namespace Go.Proofs.Ytincbilobmhgeaa
open Go.RowKit

set_option maxRecDepth 100000 in
set_option maxHeartbeats 2000000 in
theorem cloneD_any (v : Value) (x : Pl) (w : World) (h : PcsAt w v x.ps) (hl : x.ps.length ≤ 1000) :
    Calls Try.prog 34 #[plA v x] w (RetPl (fun b => w.heap.size ≤ b) x w) := by
  obtain ⟨w1, P, hw1, hP, hPl, hb1, hbox⟩ := box_any w #[.int .i64 x.u, .int .i64 x.s, .int .i64 x.c, v] 37
  obtain ⟨w2, N, hw2, hN, hNl, hb2, hnb⟩ := box_any w1 #[.int .i64 0, .int .i64 0, .int .i64 0, .slice none 0 0] 37
  have HB2 := Lib.hid (hb1.trans (hb2.mono hb1.size))
  have HC := Lib.hid (clonePcs_any v x.ps w2 (h.keep HB2.out) hl)
  have HPB := Lib.hid (keep_block hbox hb2)
  have HNB := Lib.hid hnb
  obtain ⟨p0, p1, p2, p3⟩ := four_heads HPB.out
  have HLT := Lib.hid (show w.heap.size ≤ P ∧ P < N ∧ N < w2.heap.size by have := hb1.size; omega)
  clear h hb1 hb2 hbox hnb
  unfold plA
  go_enter Try.func34, Try.ntmps34
  go_wp2_with fail
  refine HC.out.mono ?_
  rintro e w3 ⟨v', rfl, hps, hb3⟩
  have HPS := Lib.hid hps
  have HB3 := Lib.hid (HB2.out.trans (hb3.mono HB2.out.size))
  have HP3 := Lib.hid (keep_block HPB.out hb3)
  have HN3 := Lib.hid (keep_block HNB.out hb3)
  have HLT3 := Lib.hid (show N < w3.heap.size by have := HLT.out; have := hb3.size; omega)
  have HF2 := Lib.hid (show w2.heap.size ≤ w3.heap.size from hb3.size)
  have HP4 : Hid ((w3.setCell ⟨P, 3, none⟩ v').heap[P]? = some (.cells #[.int .i64 x.u, .int .i64 x.s, .int .i64 x.c, v'] 37 (0, 0))) := heap_setCell_mem _ _ _ _ _ _ _ HP3.out
  have HN4 : Hid ((w3.setCell ⟨P, 3, none⟩ v').heap[N]? = some (.cells #[.int .i64 0, .int .i64 0, .int .i64 0, .slice none 0 0] 37 (0, 0))) := (Below.heap_setCell _ _ _ _ (show N ≠ P by have := HLT.out; omega)).trans HN3.out
  obtain ⟨w4, hw4⟩ : ∃ w4, w3.setCell ⟨P, 3, none⟩ v' = w4 := ⟨_, rfl⟩
  have HB4 : Hid (Below w.heap.size w w4) := by rw [← hw4]; exact HB3.out.setCell (p := ⟨P, 3, none⟩) HLT.out.1 _
  have HPS4 : Hid (PcsIn (fun b => w.heap.size ≤ b) (w4.setRow N #[.int .i64 x.u, .int .i64 x.s, .int .i64 x.c, v']) v' x.ps) := by
    have h1 := HLT.out
    refine (HPS.out.keepF (by rw [← hw4]; simp [World.setCell]) fun b hb hF => ?_).mono fun b _ hF => by have := HB2.out.size; omega
    have h2 : b ≠ P ∧ b ≠ N := by omega
    rw [← hw4]
    exact (setRow_other _ _ _ _ h2.2).trans (Below.heap_setCell _ _ _ _ h2.1)
  rw [hw4] at HP4 HN4
  obtain ⟨r0, r1, r2, r3⟩ := four_heads HP4.out
  obtain ⟨s0, s1, s2, s3⟩ := four_heads HP3.out
  obtain ⟨f3⟩ : w3.frozen? ⟨P, 3, none⟩ = false ∧ True := ⟨by have e := HP3.out; simp [World.frozen?, e], trivial⟩
  obtain ⟨A', d', hv'⟩ := HPS.out.form
  subst hv'
  clear hps hb3 p0 p1 p2 p3 hw1 hP hw2
  go_wp2_with (refine wpList_store_row rfl _ _ _ rfl N #[.int .i64 x.u, .int .i64 x.s, .int .i64 x.c, .slice A' x.ps.length d'] rfl rfl 37 _ HN4.out (Try.sizePl _ _ _ _) rfl (one4 _ _ _ _ _ _) ?_)
  refine bodyPost_ret (v := .agg #[.int .i64 x.u, .int .i64 x.s, .int .i64 x.c, .slice A' x.ps.length d']) (results_cell_row rfl _ _ N _ _ _ _ rfl (setRow_heap _ _ _ _ _ _ HN4.out) Try.underlying37 rfl (Try.sizePl _ _ _ _)) rfl ?_
  exact ⟨_, rfl, HPS4.out, below_row16 HB4.out (by have := HLT.out; omega) _⟩
end Go.Proofs.Ytincbilobmhgeaa

/-
  Changes of the program.
  Conditions: the slices read as places of right plans, not too many.
-/
set_option linter.unusedVariables false
set_option linter.unusedSimpArgs false
namespace Go.Proofs.Ytincbilobmhgeaa
open Go.RowKit Go.Maps

def chF (F1 F2 : Int → Option Pl) (u : Int) : Ch := (u, plF F1 u, plF F2 u)
def chT (F1 F2 : Int → Option Pl) (xs : List Int) : List Ch := (xs.filter fun u => !decide (plF F1 u = plF F2 u)).map (chF F1 F2)
theorem chT_le (F1 F2 : Int → Option Pl) (xs : List Int) (k : Nat) : (chT F1 F2 (xs.take k)).length ≤ k := by
  unfold chT
  rw [List.length_map]
  refine Nat.le_trans (List.length_filter_le _ _) ?_
  rw [List.length_take]
  omega
theorem chT_succ {F1 F2 : Int → Option Pl} {xs : List Int} {k : Nat} {u : Int} (h : xs[k]? = some u) : chT F1 F2 (xs.take (k + 1)) = if plF F1 u = plF F2 u then chT F1 F2 (xs.take k) else chT F1 F2 (xs.take k) ++ [chF F1 F2 u] := by
  unfold chT
  rw [List.take_add_one, h]
  show List.map _ (List.filter _ (xs.take k ++ [u])) = _
  rw [List.filter_append, List.map_append]
  by_cases hh : plF F1 u = plF F2 u <;> simp [List.filter, hh]
/-- The changes of one plan's places to another's. -/
def chgL (la lb : List Pl) : List Ch := (listU 4 la lb).map fun u => (u, placeU la u, placeU lb u)
theorem chT_is {f1 f2 : Int} {m1 m2 : Nat} {la lb : List Pl} (h1 : Right f1 m1 la) (h2 : Right f2 m2 lb) {xs : List Int} (hx : UnitsOf (idxF la) (idxF lb) xs) : chT (idxF la) (idxF lb) xs = chgL la lb := by
  have h := who_list h1 h2 hx 4 (fun x y => !decide (x = y)) (fun u _ => rfl)
  unfold chT chgL
  rw [h]
  refine List.map_congr_left fun u _ => ?_
  unfold chF
  rw [h1.plF, h2.plF]
theorem pl_small {f : Int} {m : Nat} {l : List Pl} (h : Right f m l) (hL : LightL l) (u : Int) : (plF (idxF l) u).ps.length ≤ 1000 := by
  rw [h.plF]
  unfold placeU
  cases hx : findU l u with
  | none => exact Nat.zero_le _
  | some x => exact (hL.ok x (find_mem hx).1).2

set_option maxRecDepth 100000 in
set_option maxHeartbeats 8000000 in
theorem diffChangesG_any (f1 f2 g1 g2 : Int) (m1 m2 n1 n2 : Nat) (v1 v2 : Value) (la lb : List Pl) (w : World) (h1 : PlsAt w v1 la) (h2 : PlsAt w v2 lb) (hL1 : LightL la) (hL2 : LightL lb) (hr1 : Right g1 n1 la) (hr2 : Right g2 n2 lb) :
    Calls Try.prog 15 #[planA f1 m1 v1, planA f2 m2 v2] w (RetCh (chgL la lb) w) := by
  have mixed : Try.prog.follows .mixedOrders = true := by kernel_rfl
  obtain ⟨w1, P, hw1, hP, hPl, hb1, hpb⟩ := box_any w #[.int .i64 f1, .int .u32 m1, v1] 25
  obtain ⟨w2, Q, hw2, hQ, hQl, hb2, hqb⟩ := box_any w1 #[.int .i64 f2, .int .u32 m2, v2] 25
  have HB2 := Lib.hid (hb1.trans (hb2.mono hb1.size))
  obtain ⟨r0, r1, r2⟩ := three_heads (keep_block hpb hb2)
  obtain ⟨q0, q1, q2⟩ := three_heads hqb
  have HQ := Lib.hid (query_any f1 f2 m1 m2 v1 v2 la lb w2 (h1.keep HB2.out) (h2.keep HB2.out) (by have := hL1.len; omega) (by have := hL2.len; omega) (fun x hx => (hL1.ok x hx).1.1) (fun x hx => (hL2.ok x hx).1.1))
  unfold planA RetQ at HQ
  have HIS := Lib.hid (fun (xs : List Int) (h : UnitsOf (idxF la) (idxF lb) xs) => chT_is hr1 hr2 h)
  have HPA := Lib.hid (fun (u : Int) => pl_small hr1 hL1 u)
  have HPB := Lib.hid (fun (u : Int) => pl_small hr2 hL2 u)
  obtain ⟨N, hN⟩ : ∃ N, la.length + lb.length = N := ⟨_, rfl⟩
  have hN2 : N ≤ 2000 := by have := hL1.len; have := hL2.len; omega
  rw [hN] at HQ
  obtain ⟨FA, hFA⟩ : ∃ F, idxF la = F := ⟨_, rfl⟩
  obtain ⟨FB, hFB⟩ : ∃ F, idxF lb = F := ⟨_, rfl⟩
  rw [hFA, hFB] at HQ HIS
  rw [hFA] at HPA
  rw [hFB] at HPB
  obtain ⟨T, hT⟩ : ∃ T, chgL la lb = T := ⟨_, rfl⟩
  rw [hT] at HIS ⊢
  have hvf1 : ∃ A n c, v1 = .slice A n c := by obtain ⟨A, c, e, _⟩ := h1.form; exact ⟨A, _, c, e⟩
  have hvf2 : ∃ A n c, v2 = .slice A n c := by obtain ⟨A, c, e, _⟩ := h2.form; exact ⟨A, _, c, e⟩
  obtain ⟨vA1, vn1, vc1, rfl⟩ := hvf1
  obtain ⟨vA2, vn2, vc2, rfl⟩ := hvf2
  unfold planA
  clear h1 h2 hL1 hL2 hr1 hr2 hb1 hb2 hpb hqb hN hFA hFB hT
  go_enter Try.func15, Try.ntmps15
  go_wp2_with fail
  refine HQ.out.mono ?_
  rintro e w3 ⟨v, g, xs, rfl, hux, hlen, hint, hask, hb3⟩
  obtain ⟨A, c, rfl, _, _⟩ := id hint
  obtain ⟨p, q, rfl, hcall⟩ := hask.form
  have HINT := Lib.hid hint
  have HUX := Lib.hid hux
  have HC := Lib.hid hcall
  have HB3 := Lib.hid (HB2.out.trans (hb3.mono HB2.out.size))
  obtain ⟨n, hn⟩ : ∃ n, xs.length = n := ⟨_, rfl⟩
  rw [hn] at hlen HINT ⊢
  have HN := Lib.hid hn
  have hn2 : n ≤ 2000 := by omega
  clear hux hint hask hcall hb3 hn hlen r0 r1 r2 q0 q1 q2 hw1 hw2 hP hQ
  go_wp2_with fail
  go_loopg [5, 20] n (fun gg s5 i wr => ∃ (k : Nat) (ls : List Rc), k ≤ n ∧ gg = n - k ∧ i = .int .i64 k ∧ Hid (chsR ls = chT FA FB (xs.take k)) ∧ Hid (Below w3.heap.size w3 wr) ∧ Hid (RowCh wr w3.heap.size s5 ls))
  case atStart => exact ⟨0, [], Nat.zero_le _, by omega, rfl, Lib.hid rfl, Lib.hid (Below.refl _ _), Lib.hid (RowCh.nil _ _)⟩
  case round =>
    obtain ⟨k, ls, hk, hg, rfl, HLS, HBW, HRW⟩ := hrel
    have HG := Lib.hid hg
    clear hg
    by_cases hlt : k < n
    · have hltz : (k : Int) < (n : Int) := by omega
      have hk0 : (0 : Int) ≤ (k : Int) := by omega
      obtain ⟨u, hu⟩ := exP_at (xs := xs) (k := k) (by rw [HN.out]; exact hlt)
      have HU := Lib.hid hu
      have hub := HUX.out.2.2 u (List.mem_of_getElem? hu)
      obtain ⟨A', c', e1, _, h3⟩ := HINT.out.keep HBW.out
      injection e1 with e1 e2 e3
      subst e1
      obtain ⟨b, off, e4, hbl, hcell⟩ := h3 (by rw [HN.out]; omega)
      subst e4
      have x0 := hcell k u hu
      have HCU := Lib.hid (HC.out u wr HBW.out hub.1 hub.2)
      clear e2 e3 h3 hcell hu hub
      go_wp2_with fail
      refine HCU.out.mono ?_
      rintro e w4 ⟨y1, y2, rfl, py1, py2, hb4⟩
      have HSU := Lib.hid (chT_succ (F1 := FA) (F2 := FB) HU.out)
      have hle : ls.length ≤ 2000 := by
        rw [← chsR_length, HLS.out]
        exact Nat.le_trans (chT_le _ _ _ _) (by omega)
      have hxl := HPA.out u
      have hyl := HPB.out u
      obtain ⟨x, hx⟩ : ∃ x, plF FA u = x := ⟨_, rfl⟩
      obtain ⟨y, hy⟩ : ∃ x, plF FB u = x := ⟨_, rfl⟩
      have HCF : Hid (chF FA FB u = (u, x, y)) := Lib.hid (by unfold chF; rw [hx, hy])
      rw [hx] at py1 hxl HSU ⊢
      rw [hy] at py2 hyl HSU ⊢
      obtain ⟨xA, xd, rfl⟩ := py1.form
      obtain ⟨yA, yd, rfl⟩ := py2.form
      have HPX := Lib.hid py1
      have HPY := Lib.hid py2
      have HSM := Lib.hid (fun W h h' => samePlace_any (.slice xA x.ps.length xd) (.slice yA y.ps.length yd) x y W h h')
      have HCX := Lib.hid (fun W h => cloneD_any (.slice xA x.ps.length xd) x W h hxl)
      have HCY := Lib.hid (fun W h => cloneD_any (.slice yA y.ps.length yd) y W h hyl)
      unfold RetPl plA at HCX HCY
      unfold plA at HSM
      obtain ⟨xn, hxn⟩ : ∃ n, x.ps.length = n := ⟨_, rfl⟩
      obtain ⟨yn, hyn⟩ : ∃ n, y.ps.length = n := ⟨_, rfl⟩
      obtain ⟨xu, hxu⟩ : ∃ n, x.u = n := ⟨_, rfl⟩
      obtain ⟨xs', hxs⟩ : ∃ n, x.s = n := ⟨_, rfl⟩
      obtain ⟨xc, hxc⟩ : ∃ n, x.c = n := ⟨_, rfl⟩
      obtain ⟨yu, hyu⟩ : ∃ n, y.u = n := ⟨_, rfl⟩
      obtain ⟨ys, hys⟩ : ∃ n, y.s = n := ⟨_, rfl⟩
      obtain ⟨yc, hyc⟩ : ∃ n, y.c = n := ⟨_, rfl⟩
      have HXF := Lib.hid (⟨hxu, hxs, hxc⟩ : x.u = xu ∧ x.s = xs' ∧ x.c = xc)
      have HYF := Lib.hid (⟨hyu, hys, hyc⟩ : y.u = yu ∧ y.s = ys ∧ y.c = yc)
      unfold plA
      rw [hxn, hxu, hxs, hxc] at HSM HCX ⊢
      rw [hyn, hyu, hys, hyc] at HSM HCY ⊢
      rw [hxn] at HPX
      rw [hyn] at HPY
      obtain ⟨w5, R1, hw5, hR1, hR1l, hb5, hr1⟩ := box_any w4 #[.int .i64 0, .int .i64 0, .int .i64 0, .slice none 0 0] 37
      obtain ⟨w6, R2, hw6, hR2, hR2l, hb6, hr2⟩ := box_any w5 #[.int .i64 0, .int .i64 0, .int .i64 0, .slice none 0 0] 37
      have HRA := Lib.hid (keep_block hr1 hb6)
      have hne : R2 ≠ R1 := by omega
      obtain ⟨w6a, hw6a⟩ : ∃ W, w6.setRow R1 #[.int .i64 xu, .int .i64 xs', .int .i64 xc, .slice xA xn xd] = W := ⟨_, rfl⟩
      obtain ⟨w7, hw7⟩ : ∃ W, w6a.setRow R2 #[.int .i64 yu, .int .i64 ys, .int .i64 yc, .slice yA yn yd] = W := ⟨_, rfl⟩
      have HRB : Hid (w6a.heap[R2]? = some (.cells #[.int .i64 0, .int .i64 0, .int .i64 0, .slice none 0 0] 37 (0, 0))) := Lib.hid (by rw [← hw6a]; exact (setRow_other _ _ _ _ hne).trans hr2)
      have HRC : Hid ((w6.setRow R1 #[.int .i64 xu, .int .i64 xs', .int .i64 xc, .slice xA xn xd]).heap[R2]? = some (.cells #[.int .i64 0, .int .i64 0, .int .i64 0, .slice none 0 0] 37 (0, 0))) := Lib.hid ((setRow_other _ _ _ _ hne).trans hr2)
      have HR1 : Hid (w7.heap[R1]? = some (.cells #[.int .i64 xu, .int .i64 xs', .int .i64 xc, .slice xA xn xd] 37 (0, 0))) := Lib.hid (by rw [← hw7, ← hw6a]; exact (setRow_other _ _ _ _ (fun e => hne e.symm)).trans (setRow_heap _ _ _ _ _ _ HRA.out))
      have HR2 : Hid (w7.heap[R2]? = some (.cells #[.int .i64 yu, .int .i64 ys, .int .i64 yc, .slice yA yn yd] 37 (0, 0))) := Lib.hid (by rw [← hw7]; exact setRow_heap _ _ _ _ _ _ HRB.out)
      have hr1g : w4.heap.size ≤ R1 := by omega
      have hr2g : w4.heap.size ≤ R2 := by have := hb5.size; omega
      have hb7 : Below w4.heap.size w4 w7 := by rw [← hw7, ← hw6a]; exact below_row16 (below_row16 (hb5.trans (hb6.mono hb5.size)) hr1g _) hr2g _
      have HRG := Lib.hid (⟨hr1g, hr2g⟩ : w4.heap.size ≤ R1 ∧ w4.heap.size ≤ R2)
      have HS0 : Hid (∀ W, Below w7.heap.size w7 W → W.cell? ⟨R1, 0, none⟩ = some (.int .i64 xu) ∧ W.cell? ⟨R1, 1, none⟩ = some (.int .i64 xs') ∧ W.cell? ⟨R1, 2, none⟩ = some (.int .i64 xc) ∧ W.cell? ⟨R1, 3, none⟩ = some (.slice xA xn xd) ∧ W.cell? ⟨R2, 0, none⟩ = some (.int .i64 yu) ∧ W.cell? ⟨R2, 1, none⟩ = some (.int .i64 ys) ∧ W.cell? ⟨R2, 2, none⟩ = some (.int .i64 yc) ∧ W.cell? ⟨R2, 3, none⟩ = some (.slice yA yn yd)) := Lib.hid (fun W hk => by
        obtain ⟨a, b, c, d⟩ := four_heads (keep_block HR1.out hk)
        obtain ⟨e, f, g, h⟩ := four_heads (keep_block HR2.out hk)
        exact ⟨a, b, c, d, e, f, g, h⟩)
      obtain ⟨s0, s1, s2, s3, s4, s5, s6, s7⟩ := HS0.out _ (Below.refl _ _)
      have HK7 := Lib.hid (HBW.out.trans ((hb4.trans (hb7.mono hb4.size)).mono HBW.out.size))
      have HKR := Lib.hid (hb4.trans (hb7.mono hb4.size))
      have HP7 := Lib.hid (HPX.out.keep hb7)
      have HQ7 := Lib.hid (HPY.out.keep hb7)
      have HSM7 := Lib.hid (HSM.out w7 HP7.out HQ7.out)
      have HSZ4 := Lib.hid hb4.size
      clear py1 py2 hxl hyl hx hy hxn hyn hxu hxs hxc hyu hys hyc hb4 hb5 hb6 hr1 hr2 hb7 x0
      go_wp2_with (first | refine wpList_store_row rfl _ _ _ rfl R1 #[.int .i64 xu, .int .i64 xs', .int .i64 xc, .slice xA xn xd] rfl rfl 37 _ HRA.out (Try.sizePl _ _ _ _) rfl (one4 _ _ _ _ _ _) ?_ | refine wpList_store_row rfl _ _ _ rfl R2 #[.int .i64 yu, .int .i64 ys, .int .i64 yc, .slice yA yn yd] rfl rfl 37 _ HRB.out (Try.sizePl _ _ _ _) rfl (one4 _ _ _ _ _ _) ?_ | refine wpList_store_row rfl _ _ _ rfl R2 #[.int .i64 yu, .int .i64 ys, .int .i64 yc, .slice yA yn yd] rfl rfl 37 _ HRC.out (Try.sizePl _ _ _ _) rfl (one4 _ _ _ _ _ _) ?_)
      clear hw5 hw6 hw6a hw7 hR1 hR2 s0 s1 s2 s3 s4 s5 s6 s7
      refine HSM7.out.mono ?_
      rintro e w8 ⟨rfl, hb8⟩
      have HK8 := Lib.hid (HK7.out.trans (hb8.mono HK7.out.size))
      have HK4 := Lib.hid (HKR.out.trans (hb8.mono HKR.out.size))
      have HS7 : Hid (∀ W, Below w8.heap.size w8 W → W.cell? ⟨R1, 0, none⟩ = some (.int .i64 xu) ∧ W.cell? ⟨R1, 1, none⟩ = some (.int .i64 xs') ∧ W.cell? ⟨R1, 2, none⟩ = some (.int .i64 xc) ∧ W.cell? ⟨R1, 3, none⟩ = some (.slice xA xn xd) ∧ W.cell? ⟨R2, 0, none⟩ = some (.int .i64 yu) ∧ W.cell? ⟨R2, 1, none⟩ = some (.int .i64 ys) ∧ W.cell? ⟨R2, 2, none⟩ = some (.int .i64 yc) ∧ W.cell? ⟨R2, 3, none⟩ = some (.slice yA yn yd)) := Lib.hid (fun W hk => HS0.out W (hb8.trans (hk.mono hb8.size)))
      have HC1 := Lib.hid (fun W (hk : Below w8.heap.size w8 W) => HCX.out W (HP7.out.keep (hb8.trans (hk.mono hb8.size))))
      have HC2 := Lib.hid (fun W (hk : Below w8.heap.size w8 W) => HCY.out W (HQ7.out.keep (hb8.trans (hk.mono hb8.size))))
      have HRL : Hid (R1 < w8.heap.size ∧ R2 < w8.heap.size) := Lib.hid ⟨Nat.lt_of_lt_of_le (heap_lt HR1.out) hb8.size, Nat.lt_of_lt_of_le (heap_lt HR2.out) hb8.size⟩
      clear hb8
      by_cases hxy : x = y
      · have hd : decide (x = y) = true := decide_eq_true hxy
        rw [hd]
        rw [if_pos hxy] at HSU
        have HSE : Hid (chT FA FB (xs.take (k + 1)) = chT FA FB (xs.take k)) := HSU
        clear hxy hd HSU
        go_wp2_with fail
        go_roundg (n - (k + 1))
        case measure => have := HG.out; omega
        case rel => exact ⟨k + 1, ls, by omega, rfl, by go_num, Lib.hid (HLS.out.trans HSE.out.symm), HK8, Lib.hid (HRW.out.keep HK4.out)⟩
      · have hd : decide (x = y) = false := decide_eq_false hxy
        rw [hd]
        rw [if_neg hxy, HCF.out] at HSU
        have HSE : Hid (chT FA FB (xs.take (k + 1)) = chT FA FB (xs.take k) ++ [(u, x, y)]) := HSU
        clear hxy hd HSU
        have hk0 : Below w8.heap.size w8 w8.drew := (Below.refl _ _).drew
        have HS8 : Hid (∀ (W W' : World), Below w8.heap.size w8 W → (∀ b, b < W.heap.size → u5.ownBlock ≠ some b → W'.heap[b]? = W.heap[b]?) → W'.cell? ⟨R1, 0, none⟩ = some (.int .i64 xu) ∧ W'.cell? ⟨R1, 1, none⟩ = some (.int .i64 xs') ∧ W'.cell? ⟨R1, 2, none⟩ = some (.int .i64 xc) ∧ W'.cell? ⟨R1, 3, none⟩ = some (.slice xA xn xd) ∧ W'.cell? ⟨R2, 0, none⟩ = some (.int .i64 yu) ∧ W'.cell? ⟨R2, 1, none⟩ = some (.int .i64 ys) ∧ W'.cell? ⟨R2, 2, none⟩ = some (.int .i64 yc) ∧ W'.cell? ⟨R2, 3, none⟩ = some (.slice yA yn yd)) := Lib.hid (fun W W' hk h => by
          have o1 : u5.ownBlock ≠ some R1 := fun e => by have := own_lt HRW.out.own e; have := HRG.out.1; have := HSZ4.out; omega
          have o2 : u5.ownBlock ≠ some R2 := fun e => by have := own_lt HRW.out.own e; have := HRG.out.2; have := HSZ4.out; omega
          have l1 : R1 < W.heap.size := Nat.lt_of_lt_of_le HRL.out.1 hk.size
          have l2 : R2 < W.heap.size := Nat.lt_of_lt_of_le HRL.out.2 hk.size
          obtain ⟨a, b, c, d, e, f, g, i⟩ := HS7.out W hk
          exact ⟨(cell_same (h R1 l1 o1) _).trans a, (cell_same (h R1 l1 o1) _).trans b, (cell_same (h R1 l1 o1) _).trans c, (cell_same (h R1 l1 o1) _).trans d, (cell_same (h R2 l2 o2) _).trans e, (cell_same (h R2 l2 o2) _).trans f, (cell_same (h R2 l2 o2) _).trans g, (cell_same (h R2 l2 o2) _).trans i⟩)
        go_wp2_with fail
        refine wp_region_held_drew (S := fun w' => w'.cell? ⟨R1, 0, none⟩ = some (.int .i64 xu) ∧ w'.cell? ⟨R1, 1, none⟩ = some (.int .i64 xs') ∧ w'.cell? ⟨R1, 2, none⟩ = some (.int .i64 xc) ∧ w'.cell? ⟨R1, 3, none⟩ = some (.slice xA xn xd) ∧ w'.cell? ⟨R2, 0, none⟩ = some (.int .i64 yu) ∧ w'.cell? ⟨R2, 1, none⟩ = some (.int .i64 ys) ∧ w'.cell? ⟨R2, 2, none⟩ = some (.int .i64 yc) ∧ w'.cell? ⟨R2, 3, none⟩ = some (.slice yA yn yd)) (by kernel_rfl) ?_ (fun hHeld => ?_)
        · exact HS7.out _ hk0
        refine wpAnyH_take (i := 0) (oi := ⟨some 34, _, _, _, _, _⟩) (v := ?_) rfl (by kernel_rfl) (by kernel_rfl) (by kernel_rfl) (fun _ _ _ h => h) (Or.inl ⟨by kernel_rfl, ?_⟩) (by assumption) ?_
        rotate_left
        · (intro w hSw; (try dsimp only at hSw); go_simp; try with_reducible rfl)
        (try simp only [Act.put, List.setIfInBounds_toArray, List.set_cons_zero, List.set_cons_succ])
        refine wpAnyH_take (i := 1) (oi := ⟨some 35, _, _, _, _, _⟩) (v := ?_) rfl (by kernel_rfl) (by kernel_rfl) (by kernel_rfl) (fun _ _ _ h => h) (Or.inl ⟨by kernel_rfl, ?_⟩) (by assumption) ?_
        rotate_left
        · (intro w hSw; (try dsimp only at hSw); go_simp; try with_reducible rfl)
        (try simp only [Act.put, List.setIfInBounds_toArray, List.set_cons_zero, List.set_cons_succ])
        refine wpAnyH_take (i := 2) (oi := ⟨some 36, _, _, _, _, _⟩) (v := ?_) rfl (by kernel_rfl) (by kernel_rfl) (by kernel_rfl) (fun _ _ _ h => h) (Or.inl ⟨by kernel_rfl, ?_⟩) (by assumption) ?_
        rotate_left
        · (intro w hSw; (try dsimp only at hSw); go_simp; try with_reducible rfl)
        (try simp only [Act.put, List.setIfInBounds_toArray, List.set_cons_zero, List.set_cons_succ])
        refine wpAnyH_take (i := 4) (oi := ⟨some 38, _, _, _, _, _⟩) (v := ?_) rfl (by kernel_rfl) (by kernel_rfl) (by kernel_rfl) (fun _ _ _ h => h) (Or.inl ⟨by kernel_rfl, ?_⟩) (by assumption) ?_
        rotate_left
        · (intro w hSw; (try dsimp only at hSw); go_simp; try with_reducible rfl)
        (try simp only [Act.put, List.setIfInBounds_toArray, List.set_cons_zero, List.set_cons_succ])
        refine wpAnyH_ready (rs := [3]) (by kernel_rfl) (by simp) ?_
        refine AllReadyH.cons (o := ⟨some 37, _, _, _, _, _⟩) rfl (fun K hK => ?_) AllReadyH.nil
        rw [if_pos (by kernel_rfl)]
        go_simp
        go_at_call 34; refine (HC1.out _ hk0).mono ?_; rintro e wq1 ⟨vx5, rfl, hx5, hb1⟩
        obtain ⟨A5, d5, rfl⟩ := hx5.form
        have hk1 := hk0.trans (hb1.mono hk0.size)
        refine hK.out _ _ ?_ (fun hHeld => ?_)
        · exact HS7.out _ hk1
        clear hK K
        (try simp only [Act.put, List.setIfInBounds_toArray, List.set_cons_zero, List.set_cons_succ])
        refine wpAnyH_ready (rs := [5]) (by kernel_rfl) (by simp) ?_
        refine AllReadyH.cons (o := ⟨some 39, _, _, _, _, _⟩) rfl (fun K hK => ?_) AllReadyH.nil
        rw [if_pos (by kernel_rfl)]
        go_simp
        go_at_call 34; refine (HC2.out _ hk1).mono ?_; rintro e wq2 ⟨vy6, rfl, hy6, hb2⟩
        obtain ⟨A6, d6, rfl⟩ := hy6.form
        have hk2 := hk1.trans (hb2.mono hk1.size)
        refine hK.out _ _ ?_ (fun hHeld => ?_)
        · exact HS7.out _ hk2
        clear hK K
        (try simp only [Act.put, List.setIfInBounds_toArray, List.set_cons_zero, List.set_cons_succ])
        refine wpAnyH_take (i := 6) (oi := ⟨some 40, _, _, _, _, _⟩) (v := ?_) rfl (by kernel_rfl) (by kernel_rfl) (by kernel_rfl) (fun _ _ _ h => h) (Or.inl ⟨by kernel_rfl, ?_⟩) (by assumption) ?_
        rotate_left
        · (intro w hSw; (try dsimp only at hSw); go_simp; try with_reducible rfl)
        (try simp only [Act.put, List.setIfInBounds_toArray, List.set_cons_zero, List.set_cons_succ])
        refine wpAnyH_ready (rs := [7]) (by kernel_rfl) (by simp) ?_
        refine AllReadyH.cons (o := ⟨some 41, _, _, _, _, _⟩) rfl (fun K hK => ?_) AllReadyH.nil
        obtain ⟨wq3, N, hwN, hNe, hNl, hb3, hNb⟩ := box_any wq2 #[.int .i64 u, .int .i64 xu, .int .i64 xs', .int .i64 xc, .slice A5 x.ps.length d5, .int .i64 yu, .int .i64 ys, .int .i64 yc, .slice A6 y.ps.length d6] 41
        have hk3 := hk2.trans (hb3.mono hk2.size)
        rw [if_pos (by kernel_rfl)]
        go_simp
        refine hK.out _ _ ?_ (fun hHeld => ?_)
        · exact HS7.out _ hk3
        clear hK K
        (try simp only [Act.put, List.setIfInBounds_toArray, List.set_cons_zero, List.set_cons_succ])
        clear hwN
        refine wpAnyH_ready (rs := [8]) (by kernel_rfl) (by simp) ?_
        refine AllReadyH.cons (o := ⟨some 42, _, _, _, _, _⟩) rfl (fun K hK => ?_) AllReadyH.nil
        have hlt9 : ∀ b, u5.ownBlock = some b → b < wr.heap.size := fun b hb => own_lt HRW.out.own hb
        have hsz1 := hk0.size
        have hsz2 := hk1.size
        have hsz4 := HK4.out.size
        have hrr : PcsIn (fun b => u5.ownBlock ≠ some b) wq3 (.slice A5 x.ps.length d5) x.ps ∧ PcsIn (fun b => u5.ownBlock ≠ some b) wq3 (.slice A6 y.ps.length d6) y.ps := ⟨((hx5.keep hb2).keep hb3).mono fun b _ hF e => by have := hlt9 b e; have hF : w8.drew.heap.size ≤ b := hF; omega, (hy6.keep hb3).mono fun b _ hF e => by have := hlt9 b e; have hF : wq1.heap.size ≤ b := hF; omega⟩
        obtain ⟨v9, w9, hrun, hrow9, hb9, hk9, hs9⟩ := app_ch wq3 w3.heap.size u5 ls (u, ((A5, d5), x), ((A6, d6), y)) N (HRW.out.keep (HK4.out.trans (hk3.mono HK4.out.size))) (by rw [HXF.out.1, HXF.out.2.1, HXF.out.2.2, HYF.out.1, HYF.out.2.1, HYF.out.2.2]; exact hNb) hrr hle (by have := hk3.size; have := HBW.out.size; omega)
        refine step_append_run16 rfl _ _ 32 32 rfl _ _ (by simp [Act.eval, Act.put]) (by simp [Act.eval, Act.put]) hrun ?_
        refine hK.out _ _ ?_ (fun hHeld => ?_)
        · exact HS8.out _ _ hk3 hk9
        clear hK K
        (try simp only [Act.put, List.setIfInBounds_toArray, List.set_cons_zero, List.set_cons_succ])
        refine wpAnyH_take (i := 9) (oi := ⟨some 5, _, _, _, _, _⟩) (v := ?_) rfl (by kernel_rfl) (by kernel_rfl) (by kernel_rfl) (fun _ _ _ h => h) (Or.inl ⟨by kernel_rfl, ?_⟩) (by assumption) ?_
        rotate_left
        · (intro w hSw; (try dsimp only at hSw); go_simp; try with_reducible rfl)
        (try simp only [Act.put, List.setIfInBounds_toArray, List.set_cons_zero, List.set_cons_succ])
        refine wpAnyH_done (by kernel_rfl) ?_ _
        have HB9 : Hid (Below w3.heap.size w3 w9) := Lib.hid (HK8.out.trans ((hk3.mono HK8.out.size).trans (hb9.mono (Nat.le_refl _))))
        have HR9 := Lib.hid hrow9
        clear hHeld hrow9 hb9 hk9 hs9 hk3 hk2 hk1 hk0
        go_wp2_with fail
        go_roundg (n - (k + 1))
        case measure => have := HG.out; omega
        case rel => exact ⟨k + 1, ls ++ [(u, ((A5, d5), x), ((A6, d6), y))], by omega, rfl, by go_num, Lib.hid (by rw [chsR_snoc, HLS.out, HSE.out]), HB9, HR9⟩
    · have hltz : ¬ (k : Int) < (n : Int) := by omega
      have HKN := Lib.hid (show k = n by omega)
      obtain ⟨A5, c5, hv5⟩ := own_form HRW.out.own
      subst hv5
      go_wp2_with fail
      go_ret
      have e1 : xs.take k = xs := by rw [HKN.out, ← HN.out, List.take_length]
      have h := HLS.out
      rw [e1, HIS.out xs HUX.out] at h
      have h9 := chs_of_own HRW.out
      rw [h] at h9
      rw [← chsR_length, h] at h9 ⊢
      exact ⟨_, _, rfl, h9, HB3.out.trans (HBW.out.mono HB3.out.size)⟩
end Go.Proofs.Ytincbilobmhgeaa

/-
  Changes made, in mathematics: they make the other plan's places.
  Conditions: both plans are right.
-/
set_option linter.unusedVariables false
namespace Go.Proofs.Ytincbilobmhgeaa
open Go.RowKit

def stepF (F : Int → Option Pl) (x : Ch) : Int → Option Pl := if isB x.2.2 = true then updF F x.2.2.u (some x.2.2) else updF F x.1 none
def applyF (F : Int → Option Pl) (l : List Ch) : Int → Option Pl := l.foldl stepF F
theorem applyF_take (F : Int → Option Pl) {l : List Ch} {k : Nat} {x : Ch} (h : l[k]? = some x) : applyF F (l.take (k + 1)) = stepF (applyF F (l.take k)) x := by
  unfold applyF
  rw [List.take_add_one, h]
  simp [List.foldl_append]
theorem idx_place {f : Int} {m : Nat} {l : List Pl} (h : Right f m l) (u : Int) : idxF l u = if inU l u = true then some (placeU l u) else none := by
  rw [idxF_find h.distinct]
  unfold inU placeU
  cases findU l u <;> simp
theorem step_is {f : Int} {m : Nat} {l : List Pl} (h : Right f m l) (F : Int → Option Pl) (u : Int) (x : Pl) : stepF F (u, x, placeU l u) = updF F u (idxF l u) := by
  unfold stepF
  show (if isB (placeU l u) = true then updF F (placeU l u).u (some (placeU l u)) else updF F u none) = _
  rw [h.isB, idx_place h]
  cases hu : inU l u with
  | true => rw [if_pos rfl, if_pos rfl, (placeU_of hu).2]
  | false => rfl
theorem apply_list {f : Int} {m : Nat} {l : List Pl} (h : Right f m l) (g : Int → Pl) : ∀ (us : List Int) (F : Int → Option Pl) (u : Int), applyF F (us.map fun u => (u, g u, placeU l u)) u = if u ∈ us then idxF l u else F u
  | [], F, u => by simp [applyF]
  | v :: us, F, u => by
    have ih := apply_list h g us (stepF F (v, g v, placeU l v)) u
    unfold applyF at ih ⊢
    rw [List.map_cons, List.foldl_cons, ih, step_is h]
    unfold updF
    by_cases h1 : u ∈ us
    · rw [if_pos h1, if_pos (List.mem_cons.2 (.inr h1))]
    · rw [if_neg h1]
      by_cases h2 : u = v
      · rw [if_pos h2, if_pos (List.mem_cons.2 (.inl h2)), h2]
      · rw [if_neg h2, if_neg (fun e => (List.mem_cons.1 e).elim h2 h1)]
/-- All changes, made: the other plan's places. -/
theorem apply_back {f1 f2 : Int} {m1 m2 : Nat} {la lb : List Pl} (h1 : Right f1 m1 la) (h2 : Right f2 m2 lb) : applyF (idxF la) (chgL la lb) = idxF lb := by
  funext u
  unfold chgL
  rw [apply_list h2 (placeU la)]
  by_cases h : u ∈ listU 4 la lb
  · rw [if_pos h]
  · rw [if_neg h]
    rw [mem_listU] at h
    rw [idx_place h1, idx_place h2]
    by_cases hin : inU la u = true ∨ inU lb u = true
    · have hr : 1 ≤ u ∧ u ≤ 1040 := hin.elim h1.inU_range h2.inU_range
      have hk : ¬ kindB 4 la lb u = true := fun e => h ⟨hr, hin, e⟩
      have he : placeU la u = placeU lb u := by
        have hk' : ¬ (!decide (placeU la u = placeU lb u)) = true := hk
        simpa using hk'
      have hi : inU la u = inU lb u := by rw [← h1.isB, ← h2.isB, he]
      rw [hi, he]
    · have ha : inU la u = false := by cases hh : inU la u with | false => rfl | true => exact absurd (.inl hh) hin
      have hb : inU lb u = false := by cases hh : inU lb u with | false => rfl | true => exact absurd (.inr hh) hin
      rw [ha, hb]
      rfl
theorem units_up {f : Int} {m : Nat} {l : List Pl} (h : Right f m l) : Up (l.map fun x => x.u) := by
  unfold Up
  rw [List.pairwise_map, List.pairwise_iff_getElem]
  intro i j hi hj hij
  exact h.rises (j - i - 1) i l[i] l[j] (List.getElem?_eq_getElem hi) (by rw [show i + (j - i - 1) + 1 = j by omega]; exact List.getElem?_eq_getElem hj)
theorem find_self : ∀ {l : List Pl}, l.Pairwise (fun x y => x.u ≠ y.u) → ∀ x ∈ l, findU l x.u = some x
  | [], _, x, hx => by cases hx
  | y :: l, h, x, hx => by
    obtain ⟨h1, h2⟩ := List.pairwise_cons.1 h
    unfold findU
    rw [List.find?_cons]
    rcases List.mem_cons.1 hx with rfl | hx
    · rw [decide_eq_true rfl]
    · rw [decide_eq_false (h1 x hx)]
      exact find_self h2 x hx
/-- A right plan's places by its units, rising: itself. -/
theorem places_back {f : Int} {m : Nat} {l : List Pl} (h : Right f m l) {xs : List Int} (hx : Up xs) (hm : ∀ u, u ∈ xs ↔ (idxF l u).isSome = true) : xs.map (plF (idxF l)) = l := by
  have e : xs = l.map fun x => x.u := hx.unique (units_up h) fun u => by
    rw [hm, h.some_, List.mem_map]
    constructor
    · intro hu
      obtain ⟨h1, h2⟩ := placeU_of hu
      exact ⟨_, h1, h2⟩
    · rintro ⟨x, hx, rfl⟩
      unfold inU
      rw [find_self h.distinct x hx]
      rfl
  rw [e, List.map_map]
  refine (List.map_congr_left (g := id) fun x hx => ?_).trans (List.map_id l)
  show plF (idxF l) x.u = x
  rw [h.plF]
  unfold placeU
  rw [find_self h.distinct x hx]
  rfl
end Go.Proofs.Ytincbilobmhgeaa

/-
  A law on regions whose order is open: a load may be taken first where every operation that could come before it leaves the loaded cells as they are, though a store that waits for all loads writes them.
  Conditions: those of each law. The condition S is shown anew behind the operations that N names, not behind the others.
-/
namespace Go.Proofs.Ytincbilobmhgeaa
open Go

section
variable {P : Program} {ops : Array Oper} {Q : Exit → Act → World → Prop} {md : Region.Mode} {S1 S2 : World → Prop} {N : Nat → Bool}

/-- Whatever order is drawn; behind each operation the world meets S1, and an operation that N names keeps S2. -/
def wpAnyN (P : Program) (md : Region.Mode) (ops : Array Oper) (Q : Exit → Act → World → Prop) (S1 S2 : World → Prop) (N : Nat → Bool) : Nat → Array Bool → Act → World → Prop
  | 0, listed, a, w => Region.ready md ops listed = [] ∧ Q .normal a w
  | fuel + 1, listed, a, w =>
    (Region.ready md ops listed = [] → Q .normal a w) ∧
    ∀ i ∈ Region.ready md ops listed, wpOp P ops Q i (fun a' w' => (S1 w' ∧ (N i = true → S2 w → S2 w')) ∧ wpAnyN P md ops Q S1 S2 N fuel (listed.setIfInBounds i true) a' w') a w

theorem wpAny_of_N : ∀ (fuel : Nat) (listed : Array Bool) (a : Act) (w : World), wpAnyN P md ops Q S1 S2 N fuel listed a w → wpAny P md ops Q fuel listed a w
  | 0, _, _, _, h => h
  | fuel + 1, _, _, _, h => ⟨h.1, fun i hi => wpOp_mono (fun _ _ h' => wpAny_of_N fuel _ _ _ h'.2) (h.2 i hi)⟩

/-- What a taken operation may lean on: S1, and S2 where 'b2' says so. -/
def Leans (S1 S2 : World → Prop) (b2 : Bool) (w : World) : Prop := S1 w ∧ (b2 = true → S2 w)

/-- Operation i may be taken first: every other one that has not come up waits for it, or is apart from it and keeps what it leans on. -/
theorem wpAnyN_first {i : Nat} {oi : Oper} {v : Value} {b2 : Bool} (hi : ops[i]? = some oi) (hsel : ∀ (j : Nat) (o : Oper) cs b, ops[j]? = some o → o.op ≠ .select cs b)
    (hQ : ∀ c a w, Q (.panic c) (a.put oi.dst v) w → Q (.panic c) a w) :
    ∀ (fuel : Nat) (listed : Array Bool) (a : Act) (w : World),
      (∀ j oj, ops[j]? = some oj → j ≠ i → listed.getD j true = false → (∀ e ∈ oj.after, Region.binds md e = true → e.on ≠ i) → oi.apart ops oj = true ∧ (b2 = true → N j = true)) →
      i ∈ Region.ready md ops listed → YieldsIf P ops (Leans S1 S2 b2) oi v a → Leans S1 S2 b2 w →
      wpAnyN P md ops Q S1 S2 N fuel (listed.setIfInBounds i true) (a.put oi.dst v) w → wpAnyN P md ops Q S1 S2 N (fuel + 1) listed a w := by
  intro fuel
  induction fuel with
  | zero =>
    intro listed a w _ hr hy hS H
    refine ⟨fun h => (by rw [h] at hr; cases hr), fun j hj => ?_⟩
    by_cases hji : j = i
    · subst hji; exact hy.wpOp hi hS ⟨⟨hS.1, fun _ h => h⟩, H⟩
    · have := ready_mono hj hji
      rw [H.1] at this
      cases this
  | succ fuel ih =>
    intro listed a w hfree hr hy hS H
    refine ⟨fun h => (by rw [h] at hr; cases hr), fun j hj => ?_⟩
    by_cases hji : j = i
    · subst hji; exact hy.wpOp hi hS ⟨⟨hS.1, fun _ h => h⟩, H⟩
    · have h1 := H.2 j (ready_mono hj hji)
      obtain ⟨hjun, oj, hoj, hall⟩ := mem_ready.1 hj
      have hnot : ∀ e ∈ oj.after, Region.binds md e = true → e.on ≠ i := fun e he hb heq => by
        have h1 := hall e he hb
        have h0 := (mem_ready.1 hr).1
        rw [heq] at h1
        rcases Nat.lt_or_ge i listed.size with h' | h'
        · simp [h'] at h0 h1; rw [h0] at h1; cases h1
        · simp [Array.getElem?_eq_none h'] at h1
      obtain ⟨hap, hN⟩ := hfree j oj hoj hji hjun hnot
      have h2 := wpOp_putIf hoj hap (fun cs b => hsel i oi cs b hi) (fun cs b => hsel j oj cs b hoj) hQ hy h1
      have hfree' : ∀ k ok, ops[k]? = some ok → k ≠ i → (listed.setIfInBounds j true).getD k true = false →
          (∀ e ∈ ok.after, Region.binds md e = true → e.on ≠ i) → oi.apart ops ok = true ∧ (b2 = true → N k = true) := fun k ok hk hki hun hno => by
        refine hfree k ok hk hki ?_ hno
        by_cases hjk : j = k
        · subst hjk; exact hjun
        · rw [getD_set_ne true hjk] at hun; exact hun
      refine wpOp_mono (fun a' w' h3 => ⟨h3.2.1, ih (listed.setIfInBounds j true) a' w' hfree' (ready_mono hr (Ne.symm hji)) h3.1 ⟨h3.2.1.1, fun hb => h3.2.1.2 (hN hb) (hS.2 hb)⟩ ?_⟩) h2
      rw [Array.setIfInBounds_comm _ _ hji]
      exact h3.2.2

/-- The side condition as a Bool. -/
def freeOrd (md : Region.Mode) (ops : Array Oper) (N : Nat → Bool) (b2 : Bool) (listed : Array Bool) (i : Nat) : Bool :=
  match ops[i]? with
  | none => false
  | some oi => (List.range ops.size).all fun j => j == i || listed.getD j true || match ops[j]? with
      | some oj => oj.after.any (fun e => Region.binds md e && e.on == i) || (oi.apart ops oj && (!b2 || N j))
      | none => true

theorem freeOrd_spec {i : Nat} {oi : Oper} {b2 : Bool} {listed : Array Bool} (hi : ops[i]? = some oi) (h : freeOrd md ops N b2 listed i = true) (j : Nat) (oj : Oper)
    (hj : ops[j]? = some oj) (hne : j ≠ i) (hun : listed.getD j true = false) (hno : ∀ e ∈ oj.after, Region.binds md e = true → e.on ≠ i) :
    oi.apart ops oj = true ∧ (b2 = true → N j = true) := by
  simp only [freeOrd, hi, List.all_eq_true, List.mem_range] at h
  have h1 := h j (Array.getElem?_eq_some_iff.1 hj).1
  simp only [hj, Bool.or_eq_true, beq_iff_eq, hne, false_or, hun, Bool.false_eq_true, Bool.and_eq_true] at h1
  rcases h1 with h1 | h1
  · obtain ⟨e, he, hb⟩ := Array.any_eq_true'.1 h1
    simp only [Bool.and_eq_true, beq_iff_eq] at hb
    exact absurd hb.2 (hno e he hb.1)
  · refine ⟨h1.1, fun hb => ?_⟩
    rcases h1.2 with h2 | h2
    · rw [hb] at h2; cases h2
    · exact h2

theorem wpAnyN_take {i : Nat} {oi : Oper} {v : Value} {fuel : Nat} {listed : Array Bool} {a : Act} {w : World} (b2 : Bool) (hi : ops[i]? = some oi)
    (hs : Region.noSelect ops = true) (hf : freeOrd md ops N b2 listed i = true) (hr : (Region.ready md ops listed).contains i = true)
    (hQ : ∀ c a w, Q (.panic c) (a.put oi.dst v) w → Q (.panic c) a w) (hy : YieldsIf P ops (Leans S1 S2 b2) oi v a) (hS : Leans S1 S2 b2 w)
    (h : wpAnyN P md ops Q S1 S2 N fuel (listed.setIfInBounds i true) (a.put oi.dst v) w) : wpAnyN P md ops Q S1 S2 N (fuel + 1) listed a w :=
  wpAnyN_first hi (Region.noSelect_spec hs) hQ fuel listed a w (freeOrd_spec hi hf) (by simpa using hr) hy hS h

/-- One alone may come up. -/
theorem wpAnyN_step {i : Nat} {o : Oper} {fuel : Nat} {listed : Array Bool} {a : Act} {w : World} (hr : Region.ready md ops listed = [i]) (ho : ops[i]? = some o) (hw : Region.wanted o (yielded ops a.tmps) = true)
    (h : ∀ K' : Act → World → Prop, Shut (∀ a w', S1 w' → (N i = true → S2 w → S2 w') → wpAnyN P md ops Q S1 S2 N fuel (listed.setIfInBounds i true) a w' → K' a w') → Oper.wp P o a w K' Q) :
    wpAnyN P md ops Q S1 S2 N (fuel + 1) listed a w :=
  ⟨fun h0 => absurd (hr.symm.trans h0) (by intro e; cases e), fun j hj => by
    rw [hr] at hj
    obtain rfl := List.mem_singleton.1 hj
    exact wpOp_step ho (fun K' hK => by
      rw [if_pos hw]
      exact h K' (fun a w h1 h2 hW => hK a w ⟨⟨h1, h2⟩, hW⟩))⟩

theorem wpAnyN_done {listed : Array Bool} {a : Act} {w : World} (hr : Region.ready md ops listed = []) (h : Q .normal a w) : wpAnyN P md ops Q S1 S2 N 0 listed a w := ⟨hr, h⟩

/-- Two may come up. -/
theorem wpAnyN_two {i j : Nat} {oi oj : Oper} {fuel : Nat} {listed : Array Bool} {a : Act} {w : World} (hr : Region.ready md ops listed = [i, j]) (hi : ops[i]? = some oi) (hj : ops[j]? = some oj)
    (wi : Region.wanted oi (yielded ops a.tmps) = true) (wj : Region.wanted oj (yielded ops a.tmps) = true)
    (h1 : ∀ K' : Act → World → Prop, Shut (∀ a w', S1 w' → (N i = true → S2 w → S2 w') → wpAnyN P md ops Q S1 S2 N fuel (listed.setIfInBounds i true) a w' → K' a w') → Oper.wp P oi a w K' Q)
    (h2 : ∀ K' : Act → World → Prop, Shut (∀ a w', S1 w' → (N j = true → S2 w → S2 w') → wpAnyN P md ops Q S1 S2 N fuel (listed.setIfInBounds j true) a w' → K' a w') → Oper.wp P oj a w K' Q) :
    wpAnyN P md ops Q S1 S2 N (fuel + 1) listed a w :=
  ⟨fun h0 => absurd (hr.symm.trans h0) (by intro e; cases e), fun k hk => by
    rw [hr] at hk
    rcases List.mem_cons.1 hk with rfl | hk
    · exact wpOp_step hi (fun K' hK => by
        rw [if_pos wi]
        exact h1 K' (fun a w h1 h2 hW => hK a w ⟨⟨h1, h2⟩, hW⟩))
    · obtain rfl := List.mem_singleton.1 hk
      exact wpOp_step hj (fun K' hK => by
        rw [if_pos wj]
        exact h2 K' (fun a w h1 h2 hW => hK a w ⟨⟨h1, h2⟩, hW⟩))⟩

theorem wpOp_mono' {i : Nat} {K K' : Act → World → Prop} {a : Act} {w : World} (h : ∀ a w, K a w → K' a w) (hw : wpOp P ops Q i K a w) : wpOp P ops Q i K' a w := wpOp_mono h hw
/-- What is kept may be asked for more sharply from here on. -/
theorem wpAnyN_sharp {S1' : World → Prop} (h : ∀ w, S1' w → S1 w) : ∀ (fuel : Nat) (listed : Array Bool) (a : Act) (w : World), wpAnyN P md ops Q S1' S2 N fuel listed a w → wpAnyN P md ops Q S1 S2 N fuel listed a w
  | 0, _, _, _, hw => hw
  | fuel + 1, _, _, _, hw => ⟨hw.1, fun i hi => wpOp_mono (fun _ _ h' => ⟨⟨h _ h'.1.1, h'.1.2⟩, wpAnyN_sharp h fuel _ _ _ h'.2⟩) (hw.2 i hi)⟩

theorem wp_region_N {id : Nat} {a : Act} {w : World} (hm : P.follows .mixedOrders = true)
    (h : wpAnyN P .any ops Q S1 S2 N ops.size (Array.replicate ops.size false) a w.drew) : (Code.region id ops true).wp P Q a w :=
  wp_region_any hm (wpAny_of_N _ _ _ _ h)
end
end Go.Proofs.Ytincbilobmhgeaa
