/-
  slices.Insert of one place into a row of the caller's own.
  Conditions: the row is of the caller's own; the one that is put lies in another block.
-/
import Derived.Test.YtincbilobmhgeaaM12
import Derived.Test.YtincbilobmhgeaaM03
import Derived.Test.YtincbilobmhgeaaM05
import Derived.Test.YtincbilobmhgeaaM07
import Derived.Laws.Bits64
import Derived.Laws.CopyRow
import Derived.Shelf.Spec.SlicesInsertGrow

/-
  shifted of the program: how many ticks are in the windows of one place alone.
  Conditions: the values read as places; each has of a core and a tick one piece at most.
-/
set_option linter.unusedVariables false
set_option linter.unusedSimpArgs false
namespace Go.Proofs.Ytincbilobmhgeaa
open Go.RowKit Go.Maps

/-! ### Ticks struck against ticks -/
def xorF (ps : List Pc) (c : Int) : Nat := ps.foldl (fun a y => if y.c = c then a ^^^ y.t else a) 0
theorem xorF_take {ps : List Pc} {k : Nat} {y : Pc} (h : ps[k]? = some y) (c : Int) : xorF (ps.take (k + 1)) c = if y.c = c then xorF (ps.take k) c ^^^ y.t else xorF (ps.take k) c := by
  unfold xorF
  rw [List.take_add_one, h]
  simp [List.foldl_append]
theorem xor_fold (c : Int) (t : Nat) : ∀ (ps : List Pc) (a : Nat), (ps.foldl (fun a y => if y.c = c then a ^^^ y.t else a) a).testBit t = (a.testBit t != decide (nOn ps c t % 2 = 1))
  | [], a => by simp [nOn_nil]
  | y :: ps, a => by
    rw [List.foldl_cons, xor_fold c t ps, nOn_cons]
    unfold onB
    by_cases h : y.c = c
    · rw [if_pos h, decide_eq_true h, Nat.testBit_xor]
      have e : decide (((true && y.t.testBit t).toNat + nOn ps c t) % 2 = 1) = (y.t.testBit t != decide (nOn ps c t % 2 = 1)) := by
        rcases Nat.mod_two_eq_zero_or_one (nOn ps c t) with h2 | h2
        · cases y.t.testBit t with
          | false => rw [h2, show ((true && false).toNat + nOn ps c t) % 2 = 0 by show (0 + _) % 2 = 0; omega]; rfl
          | true => rw [h2, show ((true && true).toNat + nOn ps c t) % 2 = 1 by show (1 + _) % 2 = 1; omega]; rfl
        · cases y.t.testBit t with
          | false => rw [h2, show ((true && false).toNat + nOn ps c t) % 2 = 1 by show (0 + _) % 2 = 1; omega]; rfl
          | true => rw [h2, show ((true && true).toNat + nOn ps c t) % 2 = 0 by show (1 + _) % 2 = 0; omega]; rfl
      rw [e]
      cases a.testBit t <;> cases y.t.testBit t <;> cases decide (nOn ps c t % 2 = 1) <;> rfl
    · rw [if_neg h, decide_eq_false h]
      simp
theorem xorF_bit (ps : List Pc) (c : Int) (t : Nat) : (xorF ps c).testBit t = decide (nOn ps c t % 2 = 1) := by
  unfold xorF
  rw [xor_fold]
  simp
theorem xorF_lt {ps : List Pc} (h : ∀ y ∈ ps, y.t < 18446744073709551616) (c : Int) : xorF ps c < 18446744073709551616 := by
  unfold xorF
  have key : ∀ (l : List Pc) (a : Nat), a < 2 ^ 64 → (∀ y ∈ l, y.t < 2 ^ 64) → l.foldl (fun a y => if y.c = c then a ^^^ y.t else a) a < 2 ^ 64 := by
    intro l
    induction l with
    | nil => intro a ha _; exact ha
    | cons y l ih =>
      intro a ha hl
      rw [List.foldl_cons]
      refine ih _ ?_ fun z hz => hl z (List.mem_cons.2 (.inr hz))
      split
      · exact Nat.xor_lt_two_pow ha (hl y (List.mem_cons.2 (.inl rfl)))
      · exact ha
  exact key ps 0 (by decide) h
/-- Pieces on cores that there are, of a core and a tick one at most. -/
structure PsOk (ps : List Pc) : Prop where
  core : ∀ y ∈ ps, ∃ k : Nat, k < 16 ∧ y.c = (k : Int)
  word : ∀ y ∈ ps, y.t < 18446744073709551616
  once : ∀ (c : Int) (t : Nat), t < 64 → nOn ps c t ≤ 1
  len : ps.length ≤ 1000
theorem PsOk.nil : PsOk [] := ⟨fun y hy => (by cases hy), fun y hy => (by cases hy), fun _ _ _ => Nat.zero_le _, Nat.zero_le _⟩
theorem shift_cnt {x y : Pl} (hx : PsOk x.ps) (hy : PsOk y.ps) : sumTo (fun c => cnt (xorF (x.ps ++ y.ps) (c : Int))) 16 = shiftU x y := by
  unfold shiftU
  refine sumTo_congr fun c _ => ?_
  rw [cnt_sum]
  refine sumTo_congr fun t ht => ?_
  rw [xorF_bit, nOn_append]
  have h1 := hx.once (c : Int) t ht
  have h2 := hy.once (c : Int) t ht
  rcases (by omega : nOn x.ps (c : Int) t = 0 ∨ nOn x.ps (c : Int) t = 1) with e1 | e1 <;> rcases (by omega : nOn y.ps (c : Int) t = 0 ∨ nOn y.ps (c : Int) t = 1) with e2 | e2 <;> rw [e1, e2] <;> rfl
set_option maxRecDepth 100000 in
theorem shiftU_le (x y : Pl) : shiftU x y ≤ 1024 := by
  unfold shiftU
  refine Nat.le_trans (sumTo_le (g := fun _ => 64) fun c _ => ?_) (Nat.le_of_eq (sumTo_const 64 16))
  refine Nat.le_trans (sumTo_le (g := fun _ => 1) fun t _ => ?_) (Nat.le_of_eq (sumTo_const 1 64))
  cases (nOn x.ps (c : Int) t != nOn y.ps (c : Int) t) <;> decide
/-- What is still to come of a sum over cores. -/
def restS (left : Go.Lit → Bool) (f : Int → Nat) : Nat := sumTo (fun c => if left (.int .i64 (c : Int)) = true then cnt (f (c : Int)) else 0) 16
theorem rest_none {left : Go.Lit → Bool} (f : Int → Nat) (h : ∀ k, left k = false) : restS left f = 0 := sumTo_zero fun c _ => by rw [h]; rfl
theorem rest_step {left : Go.Lit → Bool} (f : Int → Nat) {k : Nat} (hk : k < 16) (hl : left (.int .i64 (k : Int)) = true) : restS left f = cnt (f (k : Int)) + restS (fun z => left z && !z.sameKey (.int .i64 (k : Int))) f := by
  unfold restS
  rw [← sumTo_one (c0 := k) (v := cnt (f (k : Int))) hk, ← sumTo_add]
  refine sumTo_congr fun c _ => ?_
  by_cases e : c = k
  · subst e
    rw [if_pos hl, if_pos rfl]
    simp [Lit.sameKey]
  · have e2 : ¬ ((c : Int) = (k : Int)) := by omega
    rw [if_neg e]
    have e3 : (Lit.int IntKind.i64 (c : Int)).sameKey (.int .i64 (k : Int)) = false := by
      simp [Lit.sameKey]
      exact e2
    show _ = 0 + if (left _ && !(Lit.int IntKind.i64 (c : Int)).sameKey (.int .i64 (k : Int))) = true then _ else 0
    rw [e3]
    simp
theorem wfU {z : Nat} (h : z < 18446744073709551616) : (Lit.int .u64 (z : Int)).wf = true := WalkArith.wf_u64 ⟨by omega, by omega⟩
theorem pcs_beside {W W' : World} {mb : Nat} {v : Value} {ps : List Pc} (h : PcsAt W v ps) (hg : W.grownBy W' (some mb)) (hm : ∃ es cl, W.heap[mb]? = some (.map es cl)) : PcsAt W' v ps := by
  obtain ⟨es, cl, hb⟩ := hm
  exact ((pcsM_apart hb h).keepF hg.size fun b hlt hn => hg.block b hlt fun e => hn (Option.some.inj e)).any
theorem below_map23 {W0 W W' : World} {B mb : Nat} (h : Below B W0 W) (hB : B ≤ mb) (hg : W.grownBy W' (some mb)) (hs : B ≤ W.heap.size) : Below B W0 W' := h.trans ⟨hg.os, hg.tape, hg.output, hg.size, fun k hk => hg.block k (by omega) (fun e => by have := Option.some.inj e; omega)⟩
/-! ### The map of struck ticks -/
theorem zeroU64 (w : World) : (zeroValue 54).run Try.prog w = .ok (.int .u64 0) w := by kernel_rfl
abbrev OwnU (W : World) (mb cn : Nat) (D : DataW Unit) : Prop := W.ownsMap Try.prog 3 (plainElem Try.prog 54) mb cn D
structure XorAt (W : World) (mb cn : Nat) (ps : List Pc) (D : DataW Unit) : Prop where
  own : OwnU W mb cn D
  val : ∀ q : Int, D.atKey (.int .i64 q) (.lit (.int .u64 0)) = .lit (.int .u64 (xorF ps q))
  core : ∀ q : Int, Maps.has D (.int .i64 q) = true → ∃ k : Nat, k < 16 ∧ q = (k : Int)
theorem XorAt.keep {W W' : World} {mb cn : Nat} {ps : List Pc} {D : DataW Unit} (h : XorAt W mb cn ps D) (hb : W'.heap[mb]? = W.heap[mb]?) : XorAt W' mb cn ps D := by
  refine ⟨?_, h.val, h.core⟩
  obtain ⟨es, clock, h1, r⟩ := h.own
  exact ⟨es, clock, hb.trans h1, r⟩
theorem XorAt.look {W : World} {mb cn : Nat} {ps : List Pc} {D : DataW Unit} (h : XorAt W mb cn ps D) {q : Int} (h0 : -9223372036854775808 ≤ q) (h1 : q ≤ 9223372036854775807) : (Instr.lookup 69 (.map (some mb)) (.int .i64 q) false).run Try.prog W = .ok (.int .u64 (xorF ps q)) W := by
  obtain ⟨c, hrun, hat, _⟩ := h.own.lookup_int keyedInt Try.underlying69 Try.underlying54 (zeroU64 W) (key_int q h0 h1)
  rw [h.val q] at hat
  have hc : c = (xorF ps q : Int) := by
    have e := DataW.lit.inj hat
    exact (Lit.int.inj e).2.symm
  rw [hc] at hrun
  exact hrun
theorem XorAt.put {W W' : World} {mb cn k : Nat} {ps : List Pc} {y : Pc} {D : DataW Unit} (h : XorAt W mb cn (ps.take k) D) (hy : ps[k]? = some y) (hc : ∃ k : Nat, k < 16 ∧ y.c = (k : Int)) (ho : OwnU W' mb (cn + 1) (D.put (.int .i64 y.c) (.lit (.int .u64 ((xorF (ps.take k) y.c ^^^ y.t : Nat) : Int))))) :
    XorAt W' mb (cn + 1) (ps.take (k + 1)) (D.put (.int .i64 y.c) (.lit (.int .u64 ((xorF (ps.take k) y.c ^^^ y.t : Nat) : Int)))) := by
  refine ⟨ho, fun q => ?_, fun q hq => ?_⟩
  · rw [xorF_take hy]
    by_cases e : q = y.c
    · subst e
      rw [if_pos rfl, atKey_put_same h.own.isMap (keyLit_int _)]
    · rw [if_neg (fun e' => e e'.symm), atKey_put_other (lit_ne e)]
      exact h.val q
  · by_cases e : q = y.c
    · rw [e]
      exact hc
    · rw [has_put_other (lit_ne e)] at hq
      exact h.core q hq
/-- All that is to come at the start. -/
theorem XorAt.rest {W : World} {mb cn : Nat} {ps : List Pc} {D : DataW Unit} (h : XorAt W mb cn ps D) : restS (Maps.has D) (xorF ps) = sumTo (fun c => cnt (xorF ps (c : Int))) 16 := by
  unfold restS
  refine sumTo_congr fun c _ => ?_
  cases hh : Maps.has D (.int .i64 (c : Int)) with
  | true => rfl
  | false =>
    have h1 := h.val (c : Int)
    rw [atKey_of_not_has hh] at h1
    have h2 : (0 : Int) = (xorF ps (c : Int) : Int) := (Lit.int.inj (DataW.lit.inj h1)).2
    rw [show xorF ps (c : Int) = 0 by omega]
    rw [show cnt 0 = 0 from cntT_zero_of (fun j _ => Nat.zero_testBit j)]
    rfl

set_option maxRecDepth 100000 in
set_option maxHeartbeats 8000000 in
theorem shifted_any (u v : Value) (x y : Pl) (w : World) (hs : PcsAt w u x.ps) (ht : PcsAt w v y.ps) (hx : PsOk x.ps) (hy : PsOk y.ps) :
    Calls Try.prog 35 #[plA u x, plA v y] w (RetB (.int .i64 (shiftU x y : Nat)) w) := by
  have HSC := Lib.hid (shift_cnt hx hy)
  have hLE := shiftU_le x y
  have hok : (∀ z ∈ x.ps ++ y.ps, ∃ k : Nat, k < 16 ∧ z.c = (k : Int)) ∧ (∀ z ∈ x.ps ++ y.ps, z.t < 18446744073709551616) := by
    refine ⟨fun z hz => ?_, fun z hz => ?_⟩ <;> rcases List.mem_append.1 hz with hz | hz
    · exact hx.core z hz
    · exact hy.core z hz
    · exact hx.word z hz
    · exact hy.word z hz
  have HOK := Lib.hid hok
  have hl1 := hx.len
  have hl2 := hy.len
  obtain ⟨A, c, rfl⟩ := hs.form
  obtain ⟨B, d, rfl⟩ := ht.form
  obtain ⟨xu, xs, xc, ps⟩ := x
  obtain ⟨yu, ys, yc, qs⟩ := y
  simp only at *
  obtain ⟨S, hS⟩ : ∃ S, shiftU ⟨xu, xs, xc, ps⟩ ⟨yu, ys, yc, qs⟩ = S := ⟨_, rfl⟩
  rw [hS] at HSC hLE ⊢
  unfold plA
  simp only
  have hps := hs
  have hqs := ht
  obtain ⟨n1, hn1⟩ : ∃ n, ps.length = n := ⟨_, rfl⟩
  obtain ⟨n2, hn2⟩ : ∃ n, qs.length = n := ⟨_, rfl⟩
  rw [hn1] at hps hl1 ⊢
  rw [hn2] at hqs hl2 ⊢
  obtain ⟨w1, P, hw1, hP, hPl, hb1, hbox⟩ := box_any w #[.int .i64 xu, .int .i64 xs, .int .i64 xc, .slice A n1 c] 37
  obtain ⟨w2, X, hw2, hX, hXl, hb2, hxbox⟩ := box_any w1 #[.int .i64 yu, .int .i64 ys, .int .i64 yc, .slice B n2 d] 37
  obtain ⟨w3, hw3⟩ : ∃ w3, w2.alloc (.map #[] 0) = w3 := ⟨_, rfl⟩
  obtain ⟨mb, hmb⟩ : ∃ mb, w2.heap.size = mb := ⟨_, rfl⟩
  have hmk : (Instr.makeMap 69 none).run Try.prog w2 = .ok (.map (some mb)) w3 := by rw [← hw3, ← hmb]; rfl
  have hown := World.ownsMap_made (H := Unit) w2 Try.prog 3 (plainElem Try.prog 54)
  rw [hw3, hmb] at hown
  have hb3 : Below w2.heap.size w2 w3 := by rw [← hw3]; exact (Below.refl _ _).alloc (Nat.le_refl _) _
  have hB3 := (hb1.trans (hb2.mono hb1.size)).trans (hb3.mono (Nat.le_trans hb1.size hb2.size))
  obtain ⟨w4, L, hw4, hL, hLl, hb4, hlbox⟩ := box_any w3 #[.slice A n1 c, .slice B n2 d] 35
  obtain ⟨e0, e1⟩ := two_heads hlbox
  have hX0 : XorAt w3 mb 0 ((ps ++ qs).take 0) (.map []) := ⟨hown, fun q => rfl, fun q hq => (by cases hq)⟩
  have HX0 := Lib.hid (hX0.keep (W' := w4) (hb4.block mb hown.lt))
  have HMB := Lib.hid (show w.heap.size ≤ mb by have := hb1.size; have := hb2.size; omega)
  have HB4 := Lib.hid (hB3.trans (hb4.mono hB3.size))
  have HCC := Lib.hid (concatP_any (.slice A n1 c) (.slice B n2 d) ps qs L w4 (hps.keep HB4.out) (hqs.keep HB4.out) hLl e0 e1 (by omega))
  obtain ⟨p0, p1, p2, p3⟩ := four_heads (keep_block hbox (hb2.trans (hb3.mono hb2.size)))
  obtain ⟨q0, q1, q2, q3⟩ := four_heads (keep_block hxbox hb3)
  have HLEN : Hid ((ps ++ qs).length = n1 + n2) := Lib.hid (by rw [List.length_append, hn1, hn2])
  obtain ⟨zs, hzs⟩ : ∃ zs, ps ++ qs = zs := ⟨_, rfl⟩
  rw [hzs] at HSC HOK HX0 HCC HLEN
  obtain ⟨n, hn⟩ : ∃ n, n1 + n2 = n := ⟨_, rfl⟩
  rw [hn] at HLEN
  have hnb : n ≤ 2000 := by omega
  clear hs ht hx hy hok hps hqs hn1 hn2 hl1 hl2 hb1 hb2 hb3 hbox hxbox hlbox hB3 hown hX0 hw3 hS hzs hn e0 e1
  go_enter Try.func35, Try.ntmps35
  go_wp2_with fail
  refine HCC.out.mono ?_
  rintro e w5 ⟨v5, rfl, hps5, hb5⟩
  have HPS := Lib.hid hps5.any
  have HB5 := Lib.hid (HB4.out.trans (hb5.mono HB4.out.size))
  have HX5 := Lib.hid (HX0.out.keep (W' := w5) (hb5.block mb HX0.out.own.lt))
  obtain ⟨A5, c5, rfl⟩ := hps5.form
  rw [HLEN.out] at HPS ⊢
  clear hps5 hb5 p0 p1 p2 p3 q0 q1 q2 q3 hmk hw1 hw2 hw4 hP hX hL hmb
  go_wp2_with fail
  go_loopg [19] n (fun gg i wr => ∃ (k : Nat) (D : DataW Unit), k ≤ n ∧ gg = n - k ∧ i = .int .i64 k ∧ XorAt wr mb k (zs.take k) D ∧ Below w.heap.size w wr ∧ PcsAt wr (.slice A5 n c5) zs)
  case atStart => exact ⟨0, _, Nat.zero_le _, by omega, rfl, HX5.out, HB5.out, HPS.out⟩
  case round =>
    obtain ⟨k, D, hk, hg, rfl, hxa, hbw, hbv⟩ := hrel
    have HG := Lib.hid hg
    have HXA := Lib.hid hxa
    have HBW := Lib.hid hbw
    have HBV := Lib.hid hbv
    clear hg hxa hbw
    by_cases hlt : k < n
    · have hltz : (k : Int) < (n : Int) := by omega
      have hk0 : (0 : Int) ≤ (k : Int) := by omega
      obtain ⟨y, hy⟩ := exP_at (xs := zs) (k := k) (by rw [HLEN.out]; exact hlt)
      have hym := List.mem_of_getElem? hy
      obtain ⟨b, off, hAe, hbl, _, y0, y1⟩ := HBV.out.at_ hy
      subst hAe
      have hyc := HOK.out.1 y hym
      have hyt := HOK.out.2 y hym
      have hxl : xorF (zs.take k) y.c < 18446744073709551616 := xorF_lt (fun z hz => HOK.out.2 z (List.mem_of_mem_take hz)) _
      have HPUT := Lib.hid (fun W' ho => HXA.out.put (W' := W') hy hyc ho)
      have hlook := fun (W : World) (h : XorAt W mb k (zs.take k) D) => h.look (q := y.c) (by obtain ⟨j, hj, e⟩ := hyc; omega) (by obtain ⟨j, hj, e⟩ := hyc; omega)
      have hkey := key_int y.c (by obtain ⟨j, hj, e⟩ := hyc; omega) (by obtain ⟨j, hj, e⟩ := hyc; omega)
      have hxor := bits_xor_u64_nat _ _ hxl hyt
      have hzl : xorF (zs.take k) y.c ^^^ y.t < 18446744073709551616 := Nat.xor_lt_two_pow (n := 64) hxl hyt
      obtain ⟨yc, yt⟩ := y
      simp only at y0 y1 hxor hlook hkey hzl HPUT
      obtain ⟨a, ha⟩ : ∃ a, xorF (zs.take k) yc = a := ⟨_, rfl⟩
      rw [ha] at hxor hlook hzl HPUT
      obtain ⟨z, hz⟩ : ∃ z, a ^^^ yt = z := ⟨_, rfl⟩
      rw [hz] at hxor hzl HPUT
      have hwz := wrapU z hzl
      have hval : plainElem (H := Unit) Try.prog 54 (.int .u64 (z : Int)) = some (.lit (.int .u64 (z : Int)), []) := plainElem_int Try.underlying54 (wfU hzl)
      obtain ⟨w6, Y, hw6, hY, hYl, hb6, hyb⟩ := box_any wr #[.int .i64 yc, .int .u64 yt] 56
      obtain ⟨z0, z1⟩ := two_heads hyb
      have hX6 : XorAt w6 mb k (zs.take k) D := HXA.out.keep (hb6.block mb HXA.out.own.lt)
      have hl6 := hlook w6 hX6
      have ho6 := hX6.own
      have HB6 := Lib.hid (HBW.out.trans (hb6.mono HBW.out.size))
      have HV6 := Lib.hid (HBV.out.keep hb6)
      have HMP : Hid (∃ es cl, w6.heap[mb]? = some (.map es cl)) := Lib.hid (by obtain ⟨es, cl, h, _⟩ := ho6; exact ⟨es, cl, h⟩)
      have HMX : Hid (k < maxLen) := Lib.hid (by unfold maxLen; omega)
      clear hy hym hyc hyt hxl hlook ha hz hX6 hb6 hyb hbv hzl
      go_wp2_with (at_mapUpdate; refine wpList_mapUpdate_own _ rfl _ _ _ 69 rfl 3 54 keyedInt Try.underlying69 (plainElem Try.prog 54) mb _ _ rfl ho6 HMX.out _ _ _ rfl rfl hkey _ [] hval ?_; intro w7 hout7 hg7; go_frame)
      have HX7 := Lib.hid (HPUT.out w7 hout7)
      have HB7 := Lib.hid (below_map23 HB6.out HMB.out hg7 HB6.out.size)
      have HV7 := Lib.hid (pcs_beside HV6.out hg7 HMP.out)
      clear hout7 hg7
      go_roundg (n - (k + 1))
      case measure => have := HG.out; omega
      case rel => exact ⟨k + 1, _, by omega, rfl, by go_num, HX7.out, HB7.out, HV7.out⟩
    · have hltz : ¬ (k : Int) < (n : Int) := by omega
      have hkn : k = n := by omega
      have hXN : XorAt wr mb n zs D := by
        have h := HXA.out
        rw [hkn, show zs.take n = zs by rw [← HLEN.out, List.take_length]] at h
        exact h
      have HXN := Lib.hid hXN
      have hoN := hXN.own
      have HRS := Lib.hid (hXN.rest.trans HSC.out)
      clear hXN hkn hbv
      go_wp2_with (at_range; refine wpList_range_own _ rfl _ 69 rfl 3 54 keyedInt Try.underlying69 (plainElem Try.prog 54) mb n D rfl hoN ?_; intro wb hrg0 hgb hsb)
      try go_frame
      have HBB := Lib.hid (HBW.out.trans ((Below.refl wr.heap.size _).grown hgb (Nat.le_refl _) (fun k hk => by cases hk) |>.mono HBW.out.size))
      obtain ⟨ri, hri⟩ : ∃ ri, wr.heap.size = ri := ⟨_, rfl⟩
      rw [hri] at hrg0 ⊢
      have HRG0 := Lib.hid hrg0
      have HRI := Lib.hid (show w.heap.size ≤ ri by rw [← hri]; exact HBW.out.size)
      clear hrg0 hgb hsb hoN hri
      go_loopw [8, 33] (fun s8 _ wq => ∃ (left : Go.Lit → Bool) (cnt0 acc : Nat), wq.ranges Try.prog 3 (plainElem Try.prog 54) mb ri n D left cnt0 ∧ s8 = .int .i64 acc ∧ acc + restS left (xorF zs) = S ∧ Below w.heap.size w wq)
        (fun _ _ wq => wq.rangeLeft mb ri)
      case atStart => exact ⟨_, _, 0, HRG0.out, rfl, by rw [Nat.zero_add]; exact HRS.out, HBB.out⟩
      case round =>
        obtain ⟨left, cnt0, acc, hrg, rfl, hacc, hbq⟩ := hrel
        have HRG := Lib.hid hrg
        have HAC := Lib.hid hacc
        have HBQ := Lib.hid hbq
        have hab : acc ≤ 1024 := by omega
        clear hacc hbq
        go_wp2_with (at_next; refine wpList_next_ranges_ii _ rfl _ rfl 3 54 .i64 .u64 keyedInt Try.underlying3 Try.underlying54 mb ri n _ _ _ rfl hrg ?_ ?_)
        · intro hc0 hl0
          have HE := Lib.hid (show acc = S by have h := HAC.out; rw [rest_none _ hl0] at h; exact h)
          clear hc0 hl0 hrg
          go_wp2
          go_ret
          exact ⟨ret_natU HE.out, HBQ.out⟩
        · intro q cv w8 cnt1 hwx hwc hlx hat hrg1 hlt1 hg8 hs8 hen
          obtain ⟨j, hj, rfl⟩ := HXN.out.core q (has_true_of_atKey hat)
          have hcv : cv = (xorF zs (j : Int) : Int) := by
            have h1 := hat (.lit (.int .u64 0))
            rw [HXN.out.val] at h1
            exact ((Lit.int.inj (DataW.lit.inj h1)).2).symm
          subst hcv
          have HST := Lib.hid (rest_step (xorF zs) hj hlx)
          have HCN := Lib.hid (count_any (xorF zs (j : Int)) w8 (xorF_lt HOK.out.2 _))
          obtain ⟨m, hm⟩ : ∃ m, xorF zs (j : Int) = m := ⟨_, rfl⟩
          rw [hm] at hen HST HCN
          obtain ⟨cn, hcn⟩ : ∃ cn, cnt m = cn := ⟨_, rfl⟩
          rw [hcn] at HST HCN
          have hc64 : cn ≤ 64 := by rw [← hcn]; exact cnt_le m
          have HRG1 := Lib.hid hrg1
          have HLT1 := Lib.hid hlt1
          have HB8 : Hid (Below w.heap.size w w8) := Lib.hid (HBQ.out.trans ⟨hg8.os, hg8.tape, hg8.output, hg8.size, fun k hk => hg8.block k (by have := HBQ.out.size; omega) fun e => by have h1 := HRI.out; have h2 := Option.some.inj e; omega⟩)
          clear hwx hwc hlx hat hrg1 hlt1 hg8 hs8 hm hcn
          go_wp2_with fail
          refine HCN.out.mono ?_
          rintro e w9 ⟨rfl, rfl⟩
          go_wp2_with fail
          go_roundw
          case rel => exact ⟨_, cnt1, acc + cn, HRG1.out, by go_num, by have h := HAC.out; have h2 := HST.out; omega, HB8.out⟩
          case measure => rw [HRG1.out.left_eq, HRG.out.left_eq]; exact HLT1.out
end Go.Proofs.Ytincbilobmhgeaa

/-
  Shift of the program.
  Conditions: both plans are right, and not too much.
-/
set_option linter.unusedVariables false
set_option linter.unusedSimpArgs false
namespace Go.Proofs.Ytincbilobmhgeaa
open Go.RowKit Go.Maps

def sumSh (F1 F2 : Int → Option Pl) (xs : List Int) : Nat := (xs.map fun u => shiftU (plF F1 u) (plF F2 u)).sum
theorem sumSh_succ {F1 F2 : Int → Option Pl} {xs : List Int} {k : Nat} {u : Int} (h : xs[k]? = some u) : sumSh F1 F2 (xs.take (k + 1)) = sumSh F1 F2 (xs.take k) + shiftU (plF F1 u) (plF F2 u) := by
  unfold sumSh
  rw [List.take_add_one, h]
  simp
theorem sumSh_le (F1 F2 : Int → Option Pl) (xs : List Int) : sumSh F1 F2 xs ≤ xs.length * 1024 := by
  unfold sumSh
  induction xs with
  | nil => exact Nat.zero_le _
  | cons u xs ih =>
    rw [List.map_cons, List.sum_cons, List.length_cons]
    have := shiftU_le (plF F1 u) (plF F2 u)
    omega
theorem psok_place {f : Int} {m : Nat} {l : List Pl} (h : Right f m l) (hL : LightL l) (u : Int) : PsOk (placeU l u).ps := by
  unfold placeU
  cases hx : findU l u with
  | none => exact PsOk.nil
  | some x =>
    obtain ⟨h1, h2⟩ := find_mem hx
    have hp := h.place x h1
    obtain ⟨ho, hl⟩ := hL.ok x h1
    show PsOk x.ps
    by_cases e : x.ps = []
    · rw [e]
      exact PsOk.nil
    · have hs := hp.split e
      refine ⟨fun y hy => hasC_lt (rise_cores hs.rise y hy).2.1, fun y hy => (ho.2.2.2 y hy).2, fun c t ht => Nat.le_trans (nOn_le_any _ _ _) (hs.kept t ht).1, hl⟩

set_option maxRecDepth 100000 in
set_option maxHeartbeats 4000000 in
theorem diffShift_any (f1 f2 : Int) (m1 m2 : Nat) (v1 v2 : Value) (la lb : List Pl) (w : World) (h1 : PlsAt w v1 la) (h2 : PlsAt w v2 lb) (hL1 : LightL la) (hL2 : LightL lb) (hr1 : Right f1 m1 la) (hr2 : Right f2 m2 lb) : Calls Try.prog 16 #[planA f1 m1 v1, planA f2 m2 v2] w (RetB (.int .i64 (shiftT la lb : Nat)) w) := by
  obtain ⟨w1, P, hw1, hP, hPl, hb1, hpb⟩ := box_any w #[.int .i64 f1, .int .u32 m1, v1] 25
  obtain ⟨w2, Q, hw2, hQ, hQl, hb2, hqb⟩ := box_any w1 #[.int .i64 f2, .int .u32 m2, v2] 25
  have HB2 := Lib.hid (hb1.trans (hb2.mono hb1.size))
  obtain ⟨r0, r1, r2⟩ := three_heads (keep_block hpb hb2)
  obtain ⟨q0, q1, q2⟩ := three_heads hqb
  have HQ := Lib.hid (query_any f1 f2 m1 m2 v1 v2 la lb w2 (h1.keep HB2.out) (h2.keep HB2.out) (by have := hL1.len; omega) (by have := hL2.len; omega) (fun x hx => (hL1.ok x hx).1.1) (fun x hx => (hL2.ok x hx).1.1))
  unfold planA RetQ at HQ
  have HIS := Lib.hid (fun (xs : List Int) (h : UnitsOf (idxF la) (idxF lb) xs) => show sumSh (idxF la) (idxF lb) xs = shiftT la lb by
    unfold sumSh shiftT
    rw [UnitsOf.is hr1 hr2 h]
    congr 1
    refine List.map_congr_left fun u _ => ?_
    rw [hr1.plF, hr2.plF])
  have HPA := Lib.hid (fun (u : Int) => show PsOk (plF (idxF la) u).ps by rw [hr1.plF]; exact psok_place hr1 hL1 u)
  have HPB := Lib.hid (fun (u : Int) => show PsOk (plF (idxF lb) u).ps by rw [hr2.plF]; exact psok_place hr2 hL2 u)
  obtain ⟨N, hN⟩ : ∃ N, la.length + lb.length = N := ⟨_, rfl⟩
  have hN2 : N ≤ 2000 := by have := hL1.len; have := hL2.len; omega
  rw [hN] at HQ
  obtain ⟨FA, hFA⟩ : ∃ F, idxF la = F := ⟨_, rfl⟩
  obtain ⟨FB, hFB⟩ : ∃ F, idxF lb = F := ⟨_, rfl⟩
  rw [hFA, hFB] at HQ HIS
  rw [hFA] at HPA
  rw [hFB] at HPB
  obtain ⟨T, hT⟩ : ∃ T, shiftT la lb = T := ⟨_, rfl⟩
  rw [hT] at HIS ⊢
  have hvf1 : ∃ A n c, v1 = .slice A n c := by obtain ⟨A, c, e, _⟩ := h1.form; exact ⟨A, _, c, e⟩
  have hvf2 : ∃ A n c, v2 = .slice A n c := by obtain ⟨A, c, e, _⟩ := h2.form; exact ⟨A, _, c, e⟩
  obtain ⟨vA1, vn1, vc1, rfl⟩ := hvf1
  obtain ⟨vA2, vn2, vc2, rfl⟩ := hvf2
  unfold planA
  clear h1 h2 hL1 hL2 hr1 hr2 hb1 hb2 hpb hqb hN hFA hFB hT
  go_enter Try.func16, Try.ntmps16
  go_wp2_with fail
  refine HQ.out.mono ?_
  rintro e w3 ⟨v, g, xs, rfl, hux, hlen, hint, hask, hb3⟩
  obtain ⟨A, c, rfl, _, _⟩ := id hint
  obtain ⟨p, q, rfl, hcall⟩ := hask.form
  have HINT := Lib.hid hint
  have HUX := Lib.hid hux
  have HC := Lib.hid hcall
  have HB3 := Lib.hid (HB2.out.trans (hb3.mono HB2.out.size))
  obtain ⟨n, hn⟩ : ∃ n, xs.length = n := ⟨_, rfl⟩
  rw [hn] at hlen HINT ⊢
  have HN := Lib.hid hn
  have hn2 : n ≤ 2000 := by omega
  clear hux hint hask hcall hb3 hn hlen r0 r1 r2 q0 q1 q2 hw1 hw2 hP hQ
  go_wp2_with fail
  go_loopg [5, 18] n (fun gg s5 i wr => ∃ (k S : Nat), k ≤ n ∧ gg = n - k ∧ i = .int .i64 k ∧ s5 = .int .i64 S ∧ Hid (S = sumSh FA FB (xs.take k)) ∧ Hid (Below w3.heap.size w3 wr))
  case atStart => exact ⟨0, 0, Nat.zero_le _, by omega, rfl, rfl, Lib.hid rfl, Lib.hid (Below.refl _ _)⟩
  case round =>
    obtain ⟨k, S, hk, hg, rfl, rfl, HS, HBW⟩ := hrel
    have HG := Lib.hid hg
    have hSl : S ≤ 2048000 := by
      have h9 := sumSh_le FA FB (xs.take k)
      rw [← HS.out, List.length_take] at h9
      omega
    clear hg
    by_cases hlt : k < n
    · have hltz : (k : Int) < (n : Int) := by omega
      have hk0 : (0 : Int) ≤ (k : Int) := by omega
      obtain ⟨u, hu⟩ := exP_at (xs := xs) (k := k) (by rw [HN.out]; exact hlt)
      have HU := Lib.hid hu
      have hub := HUX.out.2.2 u (List.mem_of_getElem? hu)
      obtain ⟨A', c', e1, _, h3⟩ := HINT.out.keep HBW.out
      injection e1 with e1 e2 e3
      subst e1
      obtain ⟨b, off, e4, hbl, hcell⟩ := h3 (by rw [HN.out]; omega)
      subst e4
      have x0 := hcell k u hu
      have HCU := Lib.hid (HC.out u wr HBW.out hub.1 hub.2)
      clear e2 e3 h3 hcell hu hub
      go_wp2_with fail
      refine HCU.out.mono ?_
      rintro e w4 ⟨y1, y2, rfl, py1, py2, hb4⟩
      have HK := Lib.hid (shifted_any y1 y2 (plF FA u) (plF FB u) w4 py1 py2 (HPA.out u) (HPB.out u))
      have HB4 := Lib.hid (HBW.out.trans (hb4.mono HBW.out.size))
      have hD := shiftU_le (plF FA u) (plF FB u)
      have HSU := Lib.hid (sumSh_succ (F1 := FA) (F2 := FB) HU.out)
      obtain ⟨D, hDD⟩ : ∃ D, shiftU (plF FA u) (plF FB u) = D := ⟨_, rfl⟩
      rw [hDD] at HK HSU hD
      clear py1 py2 hb4 hDD x0
      go_wp2_with fail
      refine HK.out.mono ?_
      rintro e w5 ⟨rfl, hb5⟩
      have HB5 := Lib.hid (HB4.out.trans (hb5.mono HB4.out.size))
      clear hb5
      go_wp2_with fail
      go_roundg (n - (k + 1))
      case measure => have := HG.out; omega
      case rel => exact ⟨k + 1, S + D, by omega, rfl, by go_num, by go_num, Lib.hid (by rw [HSU.out, HS.out]), HB5⟩
    · have hltz : ¬ (k : Int) < (n : Int) := by omega
      have HKN := Lib.hid (show k = n by omega)
      go_wp2_with fail
      go_ret
      have e1 : xs.take k = xs := by rw [HKN.out, ← HN.out, List.take_length]
      have h := HS.out
      rw [e1, HIS.out xs HUX.out] at h
      exact ⟨ret_natU h, HB3.out.trans (HBW.out.mono HB3.out.size)⟩
end Go.Proofs.Ytincbilobmhgeaa

/-
  Rows of places, each with where its pieces lie.
  Conditions: none.
-/
set_option linter.unusedVariables false
namespace Go.Proofs.Ytincbilobmhgeaa
open Go.RowKit

/-- A place, and where its pieces lie. -/
abbrev Rp := (Option Addr × Nat) × Pl
def rpV (r : Rp) : Value := .slice r.1.1 r.2.ps.length r.1.2
def rpCells (m : Rp) : List Value := [.int .i64 m.2.u, .int .i64 m.2.s, .int .i64 m.2.c, rpV m]
def rowP (l : List Rp) : List Value := l.flatMap rpCells
theorem rowP_cons (m : Rp) (l : List Rp) : rowP (m :: l) = .int .i64 m.2.u :: .int .i64 m.2.s :: .int .i64 m.2.c :: rpV m :: rowP l := by simp [rowP, rpCells]
theorem rowP_append (l k : List Rp) : rowP (l ++ k) = rowP l ++ rowP k := by simp [rowP]
theorem rowP_length : ∀ (l : List Rp), (rowP l).length = l.length * 4
  | [] => rfl
  | m :: l => by rw [rowP_cons]; simp [rowP_length l]; omega
theorem rowP_get : ∀ (l : List Rp) (j : Nat) (m : Rp), l[j]? = some m → (rowP l)[j * 4]? = some (.int .i64 m.2.u) ∧ (rowP l)[j * 4 + 1]? = some (.int .i64 m.2.s) ∧ (rowP l)[j * 4 + 2]? = some (.int .i64 m.2.c) ∧ (rowP l)[j * 4 + 3]? = some (rpV m)
  | [], j, m, h => by simp at h
  | x :: l, 0, m, h => by
    simp at h
    subst h
    exact ⟨rfl, rfl, rfl, rfl⟩
  | x :: l, j + 1, m, h => by
    have ih := rowP_get l j m (by simpa using h)
    rw [rowP_cons, show (j + 1) * 4 = j * 4 + 1 + 1 + 1 + 1 by omega]
    simpa using ih
theorem rowP_one (l : List Rp) : ∀ u ∈ rowP l, u.oneCell' = true := by
  intro u hu
  obtain ⟨m, _, hm⟩ := List.mem_flatMap.1 hu
  simp [rpCells] at hm
  rcases hm with rfl | rfl | rfl | rfl <;> rfl
theorem rowP_take : ∀ (l : List Rp) (i : Nat), (rowP l).take (i * 4) = rowP (l.take i)
  | [], i => by simp [rowP]
  | m :: l, 0 => by simp [rowP]
  | m :: l, i + 1 => by
    rw [rowP_cons, show (i + 1) * 4 = i * 4 + 1 + 1 + 1 + 1 by omega, List.take_succ_cons, List.take_succ_cons, List.take_succ_cons, List.take_succ_cons, rowP_take l i, List.take_succ_cons, rowP_cons]
theorem rowP_drop : ∀ (l : List Rp) (i : Nat), (rowP l).drop (i * 4) = rowP (l.drop i)
  | [], i => by simp [rowP]
  | m :: l, 0 => by simp [rowP]
  | m :: l, i + 1 => by
    rw [rowP_cons, show (i + 1) * 4 = i * 4 + 1 + 1 + 1 + 1 by omega, List.drop_succ_cons, List.drop_succ_cons, List.drop_succ_cons, List.drop_succ_cons, rowP_drop l i, List.drop_succ_cons]
theorem rp_of {F : Nat → Prop} {W : World} {v : Value} {x : Pl} (h : PcsIn F W v x.ps) : ∃ r : Rp, r.2 = x ∧ rpV r = v := by
  obtain ⟨A, d, rfl⟩ := h.form
  exact ⟨((A, d), x), rfl, rfl⟩
def plsR (ls : List Rp) : List Pl := ls.map Prod.snd
/-- All pieces of the places lie in blocks of F. -/
def AllPcs (F : Nat → Prop) (W : World) (ls : List Rp) : Prop := ∀ r ∈ ls, PcsIn F W (rpV r) r.2.ps
theorem AllPcs.keepF {F : Nat → Prop} {W W' : World} {ls : List Rp} (h : AllPcs F W ls) (hs : W.heap.size ≤ W'.heap.size) (hk : ∀ b, b < W.heap.size → F b → W'.heap[b]? = W.heap[b]?) : AllPcs F W' ls := fun r hr => (h r hr).keepF hs hk
theorem AllPcs.keep {F : Nat → Prop} {W W' : World} {ls : List Rp} (h : AllPcs F W ls) (hb : Below W.heap.size W W') : AllPcs F W' ls := fun r hr => (h r hr).keep hb
theorem AllPcs.mono {F G : Nat → Prop} {W : World} {ls : List Rp} (h : AllPcs F W ls) (hg : ∀ b, b < W.heap.size → F b → G b) : AllPcs G W ls := fun r hr => (h r hr).mono hg
theorem AllPcs.nil (F : Nat → Prop) (W : World) : AllPcs F W [] := fun r hr => by cases hr
theorem AllPcs.snoc {F : Nat → Prop} {W : World} {ls : List Rp} (h : AllPcs F W ls) {r : Rp} (hr : PcsIn F W (rpV r) r.2.ps) : AllPcs F W (ls ++ [r]) := fun x hx => by
  rcases List.mem_append.1 hx with hx | hx
  · exact h x hx
  · rw [List.mem_singleton.1 hx]; exact hr
/-- A row of one's own that reads as places, their pieces in blocks of F. -/
theorem pls_of_own {W : World} {base : Nat} {v : Value} {ls : List Rp} {F : Nat → Prop} (h : W.ownsRow base 37 4 v ls.length (rowP ls)) (hp : AllPcs F W ls) : PlsIn (fun b => F b ∨ base ≤ b) W v (plsR ls) := by
  have hpp : ∀ p ∈ ls.map (fun r => (rpV r, r.2)), PcsIn (fun b => F b ∨ base ≤ b) W p.1 p.2.ps := fun p hp' => by
    obtain ⟨r, hr, rfl⟩ := List.mem_map.1 hp'
    exact (hp r hr).mono fun b _ hF => .inl hF
  have hl : (ls.map (fun r => (rpV r, r.2))).length = ls.length := by simp
  have he : plsOf (ls.map (fun r => (rpV r, r.2))) = plsR ls := by unfold plsOf plsR; rw [List.map_map]; rfl
  obtain ⟨h1, h2⟩ := h
  rcases h2 with ⟨rfl, h0⟩ | ⟨g, cap, cur, rfl, hg, hh, hn, hc, hs, ht⟩
  · have : ls = [] := List.eq_nil_of_length_eq_zero h0
    subst this
    exact PlsIn.nil _ W
  · refine ⟨_, he, _, cap, by rw [hl], by rw [hl]; exact hn, by unfold maxLen at hc; omega, fun _ => ⟨g, 0, rfl, heap_lt hh, .inr hg, fun j p hp' => ?_⟩, hpp⟩
    rw [List.getElem?_map] at hp'
    obtain ⟨r, hr, rfl⟩ := Option.map_eq_some_iff.1 hp'
    have hj : j < ls.length := (List.getElem?_eq_some_iff.1 hr).1
    obtain ⟨g0, g1, g2, g3⟩ := rowP_get ls j r hr
    have key : ∀ (i : Nat) (u : Value), i < ls.length * 4 → (rowP ls)[i]? = some u → W.cell? ⟨g, 0 + i, none⟩ = some u := by
      intro i u hi hu
      rw [Nat.zero_add, cell_of_row W g i _ _ (0, 0) hh, ← hu, ← ht, List.getElem?_take, if_pos hi]
      simp
    exact ⟨key _ _ (by omega) g0, by rw [Nat.add_assoc]; exact key _ _ (by omega) g1, by rw [Nat.add_assoc]; exact key _ _ (by omega) g2, by rw [Nat.add_assoc]; exact key _ _ (by omega) g3⟩
/-- Places that lie: each with where its pieces lie. -/
theorem pls_rows {F : Nat → Prop} {W : World} {v : Value} {l : List Pl} (h : PlsIn F W v l) : ∃ ls : List Rp, plsR ls = l ∧ AllPcs F W ls ∧ ∃ A c, v = .slice A l.length c ∧ (0 < l.length → ∃ b off, A = some ⟨b, off, none⟩ ∧ b < W.heap.size ∧ F b ∧ ∀ (i : Nat) (u : Value), (rowP ls)[i]? = some u → W.cell? ⟨b, off + i, none⟩ = some u) := by
  obtain ⟨qs, rfl, A, c, rfl, h2, h3, h4, h5⟩ := h
  have key : ∀ qs : List (Value × Pl), (∀ p ∈ qs, PcsIn F W p.1 p.2.ps) → ∃ ls : List Rp, ls.map (fun r => (rpV r, r.2)) = qs := by
    intro qs
    induction qs with
    | nil => exact fun _ => ⟨[], rfl⟩
    | cons p qs ih =>
      intro hq
      obtain ⟨ls, hls⟩ := ih fun q hq' => hq q (by simp [hq'])
      obtain ⟨r, hr1, hr2⟩ := rp_of (hq p (by simp))
      exact ⟨r :: ls, by rw [List.map_cons, hls, hr1, hr2]⟩
  obtain ⟨ls, hls⟩ := key qs h5
  subst hls
  have he : plsOf (ls.map (fun r => (rpV r, r.2))) = plsR ls := by unfold plsOf plsR; rw [List.map_map]; rfl
  rw [he]
  have hlen : (plsR ls).length = ls.length := by unfold plsR; simp
  refine ⟨ls, rfl, fun r hr => h5 (rpV r, r.2) (List.mem_map.2 ⟨r, hr, rfl⟩), A, c, by rw [hlen, List.length_map], fun h0 => ?_⟩
  obtain ⟨b, off, e, hlt, hf, hc⟩ := h4 (by rw [List.length_map]; omega)
  refine ⟨b, off, e, hlt, hf, fun i u hu => ?_⟩
  have hi : i < ls.length * 4 := by
    have := (List.getElem?_eq_some_iff.1 hu).1
    rwa [rowP_length] at this
  obtain ⟨r, hr⟩ := exP_at (xs := ls) (k := i / 4) (by omega)
  obtain ⟨g0, g1, g2, g3⟩ := rowP_get ls (i / 4) r hr
  obtain ⟨k0, k1, k2, k3⟩ := hc (i / 4) (rpV r, r.2) (by rw [List.getElem?_map, hr]; rfl)
  have hm : i = i / 4 * 4 ∨ i = i / 4 * 4 + 1 ∨ i = i / 4 * 4 + 2 ∨ i = i / 4 * 4 + 3 := by omega
  generalize i / 4 = q at *
  rcases hm with rfl | rfl | rfl | rfl
  · rw [g0] at hu; rw [k0]; exact hu
  · rw [g1] at hu; rw [← Nat.add_assoc, k1]; exact hu
  · rw [g2] at hu; rw [← Nat.add_assoc, k2]; exact hu
  · rw [g3] at hu; rw [← Nat.add_assoc, k3]; exact hu
end Go.Proofs.Ytincbilobmhgeaa

/-
  slices.Insert of one place into a row of the caller's own.
  Conditions: the row is of the caller's own; the one that is put lies in another block.
-/
set_option linter.unusedVariables false
namespace Go.Proofs.Ytincbilobmhgeaa
open Go.RowKit Go.Proofs

def Grew (w : World) (mv mv' : Value) : Prop := ∀ k, mv'.ownBlock = some k → mv.ownBlock = some k ∨ w.heap.size ≤ k
/-- What a call answers that changes a row of its caller's. -/
def RetMp (base e : Nat) (v : Value) (l : List Rp) (w : World) (en : Ending) (w' : World) : Prop := ∃ v', en = .returned v' ∧ w'.ownsRow base e 4 v' l.length (rowP l) ∧ Apart (fun k => v.ownBlock = some k) w w' ∧ Grew w v v'
theorem apart_grown {w w' : World} {row : Option Nat} (hg : w.drew.grownBy w' row) : Apart (fun k => row = some k) w w' := ⟨hg.os, hg.tape, hg.output, hg.size, fun k hk hn => hg.block k hk (fun e => hn e.symm)⟩
theorem apart_grown0 {w w' : World} {row : Option Nat} (hg : w.grownBy w' row) : Apart (fun k => row = some k) w w' := ⟨hg.os, hg.tape, hg.output, hg.size, fun k hk hn => hg.block k hk (fun e => hn e.symm)⟩
theorem rowP_snoc (l : List Rp) (x : Rp) : rowP (l ++ [x]) = rowP l ++ rpCells x := by rw [rowP_append]; simp [rowP]
theorem rp_one (x : Rp) : ∀ u ∈ rpCells x, u.oneCell' = true := by
  intro u hu
  simp [rpCells] at hu
  rcases hu with rfl | rfl | rfl | rfl <;> rfl

def splice (l : List Value) (o : Nat) (cs : List Value) : List Value := l.take o ++ cs ++ l.drop (o + cs.length)
theorem splice_length {l cs : List Value} {o : Nat} (h : o + cs.length ≤ l.length) : (splice l o cs).length = l.length := by simp [splice]; omega
theorem splice_get {l cs : List Value} {o : Nat} (h : o + cs.length ≤ l.length) (j : Nat) : (splice l o cs)[j]? = if o ≤ j ∧ j < o + cs.length then cs[j - o]? else l[j]? := by
  unfold splice
  rw [List.append_assoc]
  by_cases h1 : j < o
  · rw [if_neg (by omega), List.getElem?_append_left (by rw [List.length_take]; omega), List.getElem?_take_of_lt h1]
  · rw [List.getElem?_append_right (by rw [List.length_take]; omega), List.length_take, Nat.min_eq_left (by omega)]
    by_cases h2 : j < o + cs.length
    · rw [if_pos ⟨by omega, h2⟩, List.getElem?_append_left (by omega)]
    · rw [if_neg (by omega), List.getElem?_append_right (by omega), List.getElem?_drop]
      congr 1
      omega

theorem run_copy_k {P : Program} (w : World) (dT sT ty elem : TypeId) (k g o dLen dCap : Nat) (a : Addr) (sLen sCap : Nat) (cur : Array Value) (t : TypeId) (cs : List Value)
    (hu : P.underlying dT = some (.slice elem)) (hs : (P.info? elem).map (·.size) = some k)
    (hg : w.heap[g]? = some (.cells cur t (0, 0))) (hn : cs.length = Nat.min sLen dLen * k)
    (hsrc : ∀ j v, cs[j]? = some v → w.cell? (a.add j) = some v) (hfit : o + cs.length ≤ cur.size) (h1 : ∀ v ∈ cs, v.oneCell' = true) :
    (Builtin.copy_ #[dT, sT] ty #[.slice (some ⟨g, o, none⟩) dLen dCap, .slice (some a) sLen sCap]).run P w =
      .ok (goInt (Nat.min sLen dLen)) (w.setRow g (splice cur.toList o cs).toArray) := by
  have hl := run_firstCells_some (P := P) (w := w) k (Nat.min sLen dLen) a sLen sCap cs hn hsrc
  have hst := run_storeCells_at P g o t cs 0 cur w hg (by simpa using hfit) h1
  cases hq : P.info? elem with
  | none => simp [hq] at hs
  | some i =>
    have hi : i.size = k := by simpa [hq] using hs
    simp only [Nat.add_zero] at hst
    simp [Builtin.copy_, run_underlying hu, Builtin.lenOf, sizeOf, typeInfo, hq, hi, hl, hst, splice]

/-- The row with one more. -/
theorem ins_cells (ps : List Rp) (k : Nat) (x : Rp) : rowP (ps.take k ++ [x] ++ ps.drop k) = (rowP ps).take (k * 4) ++ rpCells x ++ (rowP ps).drop (k * 4) := by
  rw [rowP_append, rowP_append, rowP_take, rowP_drop]
  simp [rowP]
theorem ins_get {S : List Value} {n k : Nat} (us : List Value) (hus : us.length = 4) (hS : S.length = n * 4) (hk : k ≤ n) (j : Nat) :
    (S.take (k * 4) ++ us ++ S.drop (k * 4))[j]? = if j < k * 4 then S[j]? else if j < k * 4 + 4 then us[j - k * 4]? else S[j - 4]? := by
  rw [List.append_assoc]
  by_cases h1 : j < k * 4
  · rw [if_pos h1, List.getElem?_append_left (by rw [List.length_take]; omega), List.getElem?_take_of_lt h1]
  · rw [if_neg h1, List.getElem?_append_right (by rw [List.length_take]; omega), List.length_take, Nat.min_eq_left (by omega)]
    by_cases h2 : j < k * 4 + 4
    · rw [if_pos h2, List.getElem?_append_left (by omega)]
    · rw [if_neg h2, List.getElem?_append_right (by omega), List.getElem?_drop]
      congr 1
      omega
theorem ins_shift4 {l S : List Value} {n k : Nat} (us : List Value) (hus : us.length = 4) (hS : S.length = n * 4) (hk : k < n) (hl : (n + 1) * 4 ≤ l.length) (hp : l.take (n * 4) = S) :
    (splice (splice l ((k + 1) * 4) (S.drop (k * 4))) (k * 4) us).take ((n + 1) * 4) = S.take (k * 4) ++ us ++ S.drop (k * 4) := by
  have hd : (S.drop (k * 4)).length = n * 4 - k * 4 := by rw [List.length_drop, hS]
  apply List.ext_getElem?
  intro j
  rw [ins_get us hus hS (by omega)]
  by_cases hj : j < (n + 1) * 4
  · rw [List.getElem?_take_of_lt hj, splice_get (by rw [splice_length (by rw [hd]; omega)]; omega), splice_get (by rw [hd]; omega)]
    simp only [hus]
    by_cases h1 : j < k * 4
    · rw [if_neg (by omega), if_neg (by omega), if_pos h1, ← hp, List.getElem?_take_of_lt (by omega)]
    · by_cases h2 : j < k * 4 + 4
      · rw [if_pos (by omega), if_neg h1, if_pos h2]
      · rw [if_neg (by omega), if_pos (by rw [hd]; omega), if_neg h1, if_neg h2, List.getElem?_drop]
        congr 1
        omega
  · rw [List.getElem?_take_eq_none (by omega), if_neg (by omega), if_neg (by omega), List.getElem?_eq_none (by omega)]
theorem ins_grow {l S : List Value} {n k : Nat} (us : List Value) (hus : us.length = 4) (hS : S.length = n * 4) (hk : k < n) (hl : (n + 1) * 4 ≤ l.length) (hp : l.take (k * 4) = S.take (k * 4)) :
    (splice (splice l (k * 4) us) ((k + 1) * 4) (S.drop (k * 4))).take ((n + 1) * 4) = S.take (k * 4) ++ us ++ S.drop (k * 4) := by
  have hd : (S.drop (k * 4)).length = n * 4 - k * 4 := by rw [List.length_drop, hS]
  apply List.ext_getElem?
  intro j
  rw [ins_get us hus hS (by omega)]
  by_cases hj : j < (n + 1) * 4
  · rw [List.getElem?_take_of_lt hj, splice_get (by rw [splice_length (by omega), hd]; omega), splice_get (by omega)]
    simp only [hus]
    by_cases h1 : j < k * 4
    · rw [if_neg (by omega), if_neg (by omega), if_pos h1, ← List.getElem?_take_of_lt (l := l) h1, hp, List.getElem?_take_of_lt h1]
    · by_cases h2 : j < k * 4 + 4
      · rw [if_neg (by omega), if_pos (by omega), if_neg h1, if_pos h2]
      · rw [if_pos (by rw [hd]; omega), if_neg h1, if_neg h2, List.getElem?_drop]
        congr 1
        omega
  · rw [List.getElem?_take_eq_none (by omega), if_neg (by omega), if_neg (by omega), List.getElem?_eq_none (by omega)]

theorem setRow_block {w : World} {g k : Nat} {cs : Array Value} (h : k ≠ g) : (w.setRow g cs).heap[k]? = w.heap[k]? := by
  unfold World.setRow
  show (w.heap.modify g _)[k]? = _
  rw [Array.getElem?_modify, if_neg (fun e => h e.symm)]
theorem setRow_size {w : World} {g : Nat} {cs : Array Value} : (w.setRow g cs).heap.size = w.heap.size := by simp [World.setRow]
theorem below_setRow {B : Nat} {a w : World} {g : Nat} {cs : Array Value} (h : Below B a w) (hg : B ≤ g) : Below B a (w.setRow g cs) :=
  h.trans ⟨rfl, rfl, rfl, by rw [setRow_size]; exact Nat.le_refl _, fun k hk => setRow_block (by omega)⟩
theorem Apart.drew1 {F : Nat → Prop} {a w : World} (h : Apart F a w) : Apart F a w.drew := ⟨h.os, h.tape, h.output, h.size, h.block⟩
theorem apart_setRow {F : Nat → Prop} {a w : World} {g : Nat} {cs : Array Value} (h : Apart F a w) (hg : F g) : Apart F a (w.setRow g cs) :=
  h.trans (F' := fun k => k = g) ⟨rfl, rfl, rfl, by rw [setRow_size]; exact Nat.le_refl _, fun k hk hn => setRow_block hn⟩ (fun x hx e => by subst e; exact hg)
theorem Try.sizePl4 : (Try.prog.info? 37).map (·.size) = some 4 := by
  obtain ⟨i0, hi0, h0, h1, h2⟩ := info_parts Try.infoPl
  rw [hi0]; simp [h1]
theorem own_block_cap (A : Option Addr) (n c n' c' : Nat) : (Value.slice A n c).ownBlock = (Value.slice A n' c').ownBlock := by cases A <;> rfl
theorem zeroCells_length (n : Nat) : (Builtin.zeroCells #[.int .i64 0, .int .i64 0, .int .i64 0, .slice none 0 0] n).size = n * 4 := by simp [Builtin.zeroCells]
end Go.Proofs.Ytincbilobmhgeaa
