/-
  The four laws walked.
  Conditions: the arguments read as spans of ints.
-/
import Derived.Test.YtkldinppmnjmbaaAwake
set_option linter.unusedVariables false
namespace Go.Proofs.Ytkldinppmnjmbaa
open Go.RowKit

theorem ArgAt.keep {W W' : World} {v : Value} {ps : List Sp} (h : ArgAt W v ps) (hb : Below W.heap.size W W') : ArgAt W' v ps := by
  obtain ⟨A, c, h1, h2, h3, h4, h5⟩ := h
  refine ⟨A, c, h1, h2, h3, h4, fun hn => ?_⟩
  obtain ⟨b, off, e, hlt, hc⟩ := h5 hn
  exact ⟨b, off, e, Nat.lt_of_lt_of_le hlt hb.size, fun j x hj hx => (hc j x hj hx).keep hb hlt⟩
theorem IntsS.take {l : List Sp} (h : IntsS l) (n : Nat) : IntsS (l.take n) := fun s hs => h s (List.mem_of_mem_take hs)
theorem take30 (l : List Sp) : (l.take 30).length ≤ 30 := by rw [List.length_take]; exact Nat.min_le_left _ _
theorem normT_self {r : List Sp} (h : NormalS r) : normT r = r := normT_of ⟨h, fun _ => Iff.rfl⟩
theorem right_norm (l : List Sp) : rightB (normT l) = true := rightB_yes fun i => (normal_iff _).1 (normT_isN l).1 i
theorem any_norm (l : List Sp) (x : Int) : (normT l).any (inS x) = l.any (inS x) := any_congr ((normT_isN l).2 x)
theorem wrap64u (x : Int) : IntKind.u64.wrap x = x % 18446744073709551616 := by simp [IntKind.wrap, IntKind.bits, IntKind.signed]
theorem totF_from : ∀ (l : List Sp) (n : Int), l.foldl (fun n s => IntKind.u64.wrap (n + sizeW s)) (IntKind.u64.wrap n) = IntKind.u64.wrap (n + sumS l)
  | [], n => by simp [sumS]
  | s :: r, n => by
    have e : IntKind.u64.wrap (IntKind.u64.wrap n + sizeW s) = IntKind.u64.wrap (n + (s.2 - s.1)) := by
      unfold sizeW
      simp only [wrap64u]
      omega
    rw [List.foldl_cons, e, totF_from r]
    congr 1
    simp [sumS]
    omega
theorem totF_sum (l : List Sp) : totF l = IntKind.u64.wrap (sumS l) := by
  have := totF_from l 0
  rw [show IntKind.u64.wrap 0 = 0 by rw [wrap64u]; rfl, Int.zero_add] at this
  exact this
theorem tot_parts {a : List Sp} (b : List Sp) (ha : IntsS a) : IntKind.u64.wrap (totF (normT (meetN a b)) + totF (normT (lessN a b))) = totF (normT a) := by
  rw [normT_self (meetN_isN a b).1, normT_self (lessN_isN b ha).1, totF_sum, totF_sum, totF_sum, ← sum_parts b ha]
  simp only [wrap64u]
  omega
theorem tot_in (l : List Sp) : 0 ≤ totF l ∧ totF l ≤ 18446744073709551615 := by
  rw [totF_sum, wrap64u]
  omega

set_option maxRecDepth 100000 in
set_option maxHeartbeats 8000000 in
theorem both_law (x y : Value) (a b : List Sp) (w : World) (hx : ArgAt w x a) (hy : ArgAt w y b) (ia : IntsS a) (ib : IntsS b) : Calls Try.prog 4 #[x, y] w (RetB (.bool true) w) := by
  have HX := Lib.hid hx
  have HY := Lib.hid hy
  have HB := Lib.hid (Below.refl w.heap.size w)
  have HIA := Lib.hid (ia.take 30)
  have hla := take30 a
  have hlb := take30 b
  clear hx hy
  go_enter Try.func4, Try.ntmps4
  go_wp2_with fail
  refine Calls.mono (few_any x a w HX.out) ?_
  rintro e w1 ⟨u1, rfl, hat1, hw1⟩
  subst hw1
  have HU1 := Lib.hid hat1
  clear hat1
  go_wp2_with fail
  refine Calls.mono (few_any y b w HY.out) ?_
  rintro e w2 ⟨u2, rfl, hat2, hw2⟩
  subst hw2
  have HU2 := Lib.hid hat2
  clear hat2
  clear HX HY
  generalize a.take 30 = la at *
  generalize b.take 30 = lb at *
  go_wp2_with fail
  refine Calls.mono (of_any u1 la w HU1.out) ?_
  rintro e w3 ⟨v3, rfl, hat3, hb3⟩
  replace HU1 := Lib.hid (HU1.out.keep hb3)
  replace HU2 := Lib.hid (HU2.out.keep hb3)
  replace HB := Lib.hid (HB.out.trans (hb3.mono HB.out.size))
  clear hb3
  have HP := Lib.hid hat3
  clear hat3
  go_wp2_with fail
  refine Calls.mono (of_any u2 lb w3 HU2.out) ?_
  rintro e w4 ⟨v4, rfl, hat4, hb4⟩
  replace HU1 := Lib.hid (HU1.out.keep hb4)
  replace HU2 := Lib.hid (HU2.out.keep hb4)
  replace HP := Lib.hid (HP.out.keep hb4)
  replace HB := Lib.hid (HB.out.trans (hb4.mono HB.out.size))
  clear hb4
  have HQ := Lib.hid hat4
  clear hat4
  go_wp2_with fail
  refine Calls.mono (union_any v3 v4 la lb w4 HP.out HQ.out (by omega)) ?_
  rintro e w5 ⟨v5, rfl, hat5, hb5⟩
  replace HU1 := Lib.hid (HU1.out.keep hb5)
  replace HU2 := Lib.hid (HU2.out.keep hb5)
  replace HP := Lib.hid (HP.out.keep hb5)
  replace HQ := Lib.hid (HQ.out.keep hb5)
  replace HB := Lib.hid (HB.out.trans (hb5.mono HB.out.size))
  clear hb5
  have HR := Lib.hid hat5
  clear hat5
  clear HP HQ
  go_wp2_with fail
  refine Calls.mono (op0_any u1 u2 la lb w5 HU1.out HU2.out (by omega)) ?_
  rintro e w6 ⟨v6, rfl, hat6, hb6⟩
  rw [op_union] at hat6
  replace HU1 := Lib.hid (HU1.out.keep hb6)
  replace HU2 := Lib.hid (HU2.out.keep hb6)
  replace HR := Lib.hid (HR.out.keep hb6)
  replace HB := Lib.hid (HB.out.trans (hb6.mono HB.out.size))
  clear hb6
  have HS := Lib.hid hat6
  clear hat6
  go_wp2_with fail
  refine Calls.mono (same_any v5 v6 _ w6 HR.out HS.out) ?_
  rintro e w7 ⟨rfl, hb7⟩
  replace HU1 := Lib.hid (HU1.out.keep hb7)
  replace HU2 := Lib.hid (HU2.out.keep hb7)
  replace HR := Lib.hid (HR.out.keep hb7)
  replace HS := Lib.hid (HS.out.keep hb7)
  replace HB := Lib.hid (HB.out.trans (hb7.mono HB.out.size))
  clear hb7
  clear HR HS
  go_wp2_with fail
  refine Calls.mono (of_any u1 la w7 HU1.out) ?_
  rintro e w8 ⟨v8, rfl, hat8, hb8⟩
  replace HU1 := Lib.hid (HU1.out.keep hb8)
  replace HU2 := Lib.hid (HU2.out.keep hb8)
  replace HB := Lib.hid (HB.out.trans (hb8.mono HB.out.size))
  clear hb8
  have HP := Lib.hid hat8
  clear hat8
  go_wp2_with fail
  refine Calls.mono (of_any u2 lb w8 HU2.out) ?_
  rintro e w9 ⟨v9, rfl, hat9, hb9⟩
  replace HU1 := Lib.hid (HU1.out.keep hb9)
  replace HU2 := Lib.hid (HU2.out.keep hb9)
  replace HP := Lib.hid (HP.out.keep hb9)
  replace HB := Lib.hid (HB.out.trans (hb9.mono HB.out.size))
  clear hb9
  have HQ := Lib.hid hat9
  clear hat9
  go_wp2_with fail
  refine Calls.mono (meet_any v8 v9 la lb w9 HP.out HQ.out (by omega)) ?_
  rintro e w10 ⟨v10, rfl, hat10, hb10⟩
  replace HU1 := Lib.hid (HU1.out.keep hb10)
  replace HU2 := Lib.hid (HU2.out.keep hb10)
  replace HP := Lib.hid (HP.out.keep hb10)
  replace HQ := Lib.hid (HQ.out.keep hb10)
  replace HB := Lib.hid (HB.out.trans (hb10.mono HB.out.size))
  clear hb10
  have HR := Lib.hid hat10
  clear hat10
  clear HP HQ
  go_wp2_with fail
  refine Calls.mono (op1_any u1 u2 la lb w10 HU1.out HU2.out (by omega)) ?_
  rintro e w11 ⟨v11, rfl, hat11, hb11⟩
  rw [op_meet] at hat11
  replace HU1 := Lib.hid (HU1.out.keep hb11)
  replace HU2 := Lib.hid (HU2.out.keep hb11)
  replace HR := Lib.hid (HR.out.keep hb11)
  replace HB := Lib.hid (HB.out.trans (hb11.mono HB.out.size))
  clear hb11
  have HS := Lib.hid hat11
  clear hat11
  go_wp2_with fail
  refine Calls.mono (same_any v10 v11 _ w11 HR.out HS.out) ?_
  rintro e w12 ⟨rfl, hb12⟩
  replace HU1 := Lib.hid (HU1.out.keep hb12)
  replace HU2 := Lib.hid (HU2.out.keep hb12)
  replace HR := Lib.hid (HR.out.keep hb12)
  replace HS := Lib.hid (HS.out.keep hb12)
  replace HB := Lib.hid (HB.out.trans (hb12.mono HB.out.size))
  clear hb12
  clear HR HS
  go_wp2_with fail
  refine Calls.mono (of_any u1 la w12 HU1.out) ?_
  rintro e w13 ⟨v13, rfl, hat13, hb13⟩
  replace HU1 := Lib.hid (HU1.out.keep hb13)
  replace HU2 := Lib.hid (HU2.out.keep hb13)
  replace HB := Lib.hid (HB.out.trans (hb13.mono HB.out.size))
  clear hb13
  have HP := Lib.hid hat13
  clear hat13
  go_wp2_with fail
  refine Calls.mono (of_any u2 lb w13 HU2.out) ?_
  rintro e w14 ⟨v14, rfl, hat14, hb14⟩
  replace HU1 := Lib.hid (HU1.out.keep hb14)
  replace HU2 := Lib.hid (HU2.out.keep hb14)
  replace HP := Lib.hid (HP.out.keep hb14)
  replace HB := Lib.hid (HB.out.trans (hb14.mono HB.out.size))
  clear hb14
  have HQ := Lib.hid hat14
  clear hat14
  go_wp2_with fail
  refine Calls.mono (less_any v13 v14 la lb w14 HP.out HQ.out (by omega)) ?_
  rintro e w15 ⟨v15, rfl, hat15, hb15⟩
  replace HU1 := Lib.hid (HU1.out.keep hb15)
  replace HU2 := Lib.hid (HU2.out.keep hb15)
  replace HP := Lib.hid (HP.out.keep hb15)
  replace HQ := Lib.hid (HQ.out.keep hb15)
  replace HB := Lib.hid (HB.out.trans (hb15.mono HB.out.size))
  clear hb15
  have HR := Lib.hid hat15
  clear hat15
  clear HP HQ
  go_wp2_with fail
  refine Calls.mono (op2_any u1 u2 la lb w15 HU1.out HU2.out (by omega)) ?_
  rintro e w16 ⟨v16, rfl, hat16, hb16⟩
  rw [op_less lb HIA.out] at hat16
  replace HU1 := Lib.hid (HU1.out.keep hb16)
  replace HU2 := Lib.hid (HU2.out.keep hb16)
  replace HR := Lib.hid (HR.out.keep hb16)
  replace HB := Lib.hid (HB.out.trans (hb16.mono HB.out.size))
  clear hb16
  have HS := Lib.hid hat16
  clear hat16
  go_wp2_with fail
  refine Calls.mono (same_any v15 v16 _ w16 HR.out HS.out) ?_
  rintro e w17 ⟨rfl, hb17⟩
  replace HU1 := Lib.hid (HU1.out.keep hb17)
  replace HU2 := Lib.hid (HU2.out.keep hb17)
  replace HR := Lib.hid (HR.out.keep hb17)
  replace HS := Lib.hid (HS.out.keep hb17)
  replace HB := Lib.hid (HB.out.trans (hb17.mono HB.out.size))
  clear hb17
  clear HR HS
  go_wp2_with fail
  refine Calls.mono (awake_any w17) ?_
  rintro e w18 ⟨rfl, hb18⟩
  replace HU1 := Lib.hid (HU1.out.keep hb18)
  replace HU2 := Lib.hid (HU2.out.keep hb18)
  replace HB := Lib.hid (HB.out.trans (hb18.mono HB.out.size))
  clear hb18
  go_wp2
  go_ret
  exact ⟨rfl, HB.out⟩

set_option maxRecDepth 100000 in
set_option maxHeartbeats 8000000 in
theorem gaps_law (x : Value) (a : List Sp) (f0 t0 : Int) (w : World) (hx : ArgAt w x a) : Calls Try.prog 5 #[x, .int .i64 f0, .int .i64 t0] w (RetB (.bool true) w) := by
  have HX := Lib.hid hx
  have HB := Lib.hid (Below.refl w.heap.size w)
  have hla := take30 a
  clear hx
  go_enter Try.func5, Try.ntmps5
  go_wp2_with fail
  refine Calls.mono (few_any x a w HX.out) ?_
  rintro e w1 ⟨u1, rfl, hat1, hw1⟩
  subst hw1
  have HU1 := Lib.hid hat1
  clear hat1
  clear HX
  generalize a.take 30 = la at *
  go_wp2_with fail
  refine Calls.mono (of_any u1 la w HU1.out) ?_
  rintro e w2 ⟨v2, rfl, hat2, hb2⟩
  replace HU1 := Lib.hid (HU1.out.keep hb2)
  replace HB := Lib.hid (HB.out.trans (hb2.mono HB.out.size))
  clear hb2
  have HP := Lib.hid hat2
  clear hat2
  go_wp2_with fail
  refine Calls.mono (gaps_any v2 la f0 t0 w2 HP.out (by omega)) ?_
  rintro e w3 ⟨v3, rfl, hat3, hb3⟩
  replace HU1 := Lib.hid (HU1.out.keep hb3)
  replace HP := Lib.hid (HP.out.keep hb3)
  replace HB := Lib.hid (HB.out.trans (hb3.mono HB.out.size))
  clear hb3
  have HR := Lib.hid hat3
  clear hat3
  clear HP
  have hbl : Below w3.heap.size w3 (w3.alloc (.cells #[.int .i64 f0, .int .i64 t0] 42)) := (Below.refl _ _).alloc (Nat.le_refl _) _
  have HL : Hid (SpansAt (w3.alloc (.cells #[.int .i64 f0, .int .i64 t0] 42)) (.slice (some ⟨w3.heap.size, 0, none⟩) 1 1) [(f0, t0)]) := lit_spans w3 [(f0, t0)] 42 (by simp)
  replace HU1 := Lib.hid (HU1.out.keep hbl)
  replace HR := Lib.hid (HR.out.keep hbl)
  replace HB := Lib.hid (HB.out.trans (hbl.mono HB.out.size))
  clear hbl
  go_wp2_with fail
  refine Calls.mono (op2_any (.slice (some ⟨w3.heap.size, 0, none⟩) 1 1) u1 [(f0, t0)] la (w3.alloc (.cells #[.int .i64 f0, .int .i64 t0] 42)) HL.out HU1.out (by simp; omega)) ?_
  rintro e w4 ⟨v4, rfl, hat4, hb4⟩
  rw [op_gaps] at hat4
  replace HU1 := Lib.hid (HU1.out.keep hb4)
  replace HR := Lib.hid (HR.out.keep hb4)
  replace HB := Lib.hid (HB.out.trans (hb4.mono HB.out.size))
  clear hb4
  have HS := Lib.hid hat4
  clear hat4
  clear HL
  go_wp2_with fail
  refine Calls.mono (same_any v3 v4 _ w4 HR.out HS.out) ?_
  rintro e w5 ⟨rfl, hb5⟩
  replace HU1 := Lib.hid (HU1.out.keep hb5)
  replace HR := Lib.hid (HR.out.keep hb5)
  replace HS := Lib.hid (HS.out.keep hb5)
  replace HB := Lib.hid (HB.out.trans (hb5.mono HB.out.size))
  clear hb5
  clear HR HS
  go_wp2_with fail
  refine Calls.mono (awake_any w5) ?_
  rintro e w6 ⟨rfl, hb6⟩
  replace HU1 := Lib.hid (HU1.out.keep hb6)
  replace HB := Lib.hid (HB.out.trans (hb6.mono HB.out.size))
  clear hb6
  go_wp2
  go_ret
  exact ⟨rfl, HB.out⟩

set_option maxRecDepth 100000 in
set_option maxHeartbeats 8000000 in
theorem parts_law (x y : Value) (a b : List Sp) (w : World) (hx : ArgAt w x a) (hy : ArgAt w y b) (ia : IntsS a) (ib : IntsS b) : Calls Try.prog 6 #[x, y] w (RetB (.bool true) w) := by
  have HX := Lib.hid hx
  have HY := Lib.hid hy
  have HB := Lib.hid (Below.refl w.heap.size w)
  have HIA := Lib.hid (ia.take 30)
  have hla := take30 a
  have hlb := take30 b
  clear hx hy
  go_enter Try.func6, Try.ntmps6
  go_wp2_with fail
  refine Calls.mono (few_any x a w HX.out) ?_
  rintro e w1 ⟨u1, rfl, hat1, hw1⟩
  subst hw1
  have HU1 := Lib.hid hat1
  clear hat1
  go_wp2_with fail
  refine Calls.mono (of_any u1 (a.take 30) w HU1.out) ?_
  rintro e w2 ⟨v2, rfl, hat2, hb2⟩
  replace HU1 := Lib.hid (HU1.out.keep hb2)
  replace HX := Lib.hid (HX.out.keep hb2)
  replace HY := Lib.hid (HY.out.keep hb2)
  replace HB := Lib.hid (HB.out.trans (hb2.mono HB.out.size))
  clear hb2
  have HP := Lib.hid hat2
  clear hat2
  clear HU1
  go_wp2_with fail
  refine Calls.mono (few_any y b w2 HY.out) ?_
  rintro e w3 ⟨u3, rfl, hat3, hw3⟩
  subst hw3
  have HU2 := Lib.hid hat3
  clear hat3
  go_wp2_with fail
  refine Calls.mono (of_any u3 (b.take 30) w2 HU2.out) ?_
  rintro e w4 ⟨v4, rfl, hat4, hb4⟩
  replace HP := Lib.hid (HP.out.keep hb4)
  replace HU2 := Lib.hid (HU2.out.keep hb4)
  replace HX := Lib.hid (HX.out.keep hb4)
  replace HY := Lib.hid (HY.out.keep hb4)
  replace HB := Lib.hid (HB.out.trans (hb4.mono HB.out.size))
  clear hb4
  have HQ := Lib.hid hat4
  clear hat4
  clear HU2
  clear HY
  have HML := Lib.hid (meetN_length (a.take 30) (b.take 30))
  have HLL := Lib.hid (lessN_length (a.take 30) (b.take 30))
  have HPU := Lib.hid (parts_union (b.take 30) HIA.out)
  have HPA := Lib.hid (parts_apart (b.take 30) HIA.out)
  have HPT := Lib.hid (tot_parts (b.take 30) HIA.out)
  go_wp2_with fail
  refine Calls.mono (meet_any v2 v4 (a.take 30) (b.take 30) w4 HP.out HQ.out (by omega)) ?_
  rintro e w5 ⟨v5, rfl, hat5, hb5⟩
  replace HP := Lib.hid (HP.out.keep hb5)
  replace HQ := Lib.hid (HQ.out.keep hb5)
  replace HX := Lib.hid (HX.out.keep hb5)
  replace HB := Lib.hid (HB.out.trans (hb5.mono HB.out.size))
  clear hb5
  have HM := Lib.hid hat5
  clear hat5
  go_wp2_with fail
  refine Calls.mono (less_any v2 v4 (a.take 30) (b.take 30) w5 HP.out HQ.out (by omega)) ?_
  rintro e w6 ⟨v6, rfl, hat6, hb6⟩
  replace HP := Lib.hid (HP.out.keep hb6)
  replace HQ := Lib.hid (HQ.out.keep hb6)
  replace HM := Lib.hid (HM.out.keep hb6)
  replace HX := Lib.hid (HX.out.keep hb6)
  replace HB := Lib.hid (HB.out.trans (hb6.mono HB.out.size))
  clear hb6
  have HLS := Lib.hid hat6
  clear hat6
  clear HQ
  have hm1 := HML.out
  have hl1 := HLL.out
  go_wp2_with fail
  refine Calls.mono (union_any v5 v6 _ _ w6 HM.out HLS.out (by omega)) ?_
  rintro e w7 ⟨v7, rfl, hat7, hb7⟩
  rw [HPU.out] at hat7
  replace HP := Lib.hid (HP.out.keep hb7)
  replace HM := Lib.hid (HM.out.keep hb7)
  replace HLS := Lib.hid (HLS.out.keep hb7)
  replace HX := Lib.hid (HX.out.keep hb7)
  replace HB := Lib.hid (HB.out.trans (hb7.mono HB.out.size))
  clear hb7
  have HN := Lib.hid hat7
  clear hat7
  go_wp2_with fail
  refine Calls.mono (few_any x a w7 HX.out) ?_
  rintro e w8 ⟨u8, rfl, hat8, hw8⟩
  subst hw8
  have HU6 := Lib.hid hat8
  clear hat8
  clear HX
  go_wp2_with fail
  refine Calls.mono (op0_any u8 (.slice none 0 0) (a.take 30) [] w7 HU6.out (SpansAt.nil _) (by simp only [List.length_nil]; omega)) ?_
  rintro e w9 ⟨v9, rfl, hat9, hb9⟩
  rw [op_norm] at hat9
  replace HP := Lib.hid (HP.out.keep hb9)
  replace HM := Lib.hid (HM.out.keep hb9)
  replace HLS := Lib.hid (HLS.out.keep hb9)
  replace HN := Lib.hid (HN.out.keep hb9)
  replace HU6 := Lib.hid (HU6.out.keep hb9)
  replace HB := Lib.hid (HB.out.trans (hb9.mono HB.out.size))
  clear hb9
  have HO := Lib.hid hat9
  clear hat9
  clear HU6
  go_wp2_with fail
  refine Calls.mono (same_any v7 v9 _ w9 HN.out HO.out) ?_
  rintro e w10 ⟨rfl, hb10⟩
  replace HP := Lib.hid (HP.out.keep hb10)
  replace HM := Lib.hid (HM.out.keep hb10)
  replace HLS := Lib.hid (HLS.out.keep hb10)
  replace HN := Lib.hid (HN.out.keep hb10)
  replace HO := Lib.hid (HO.out.keep hb10)
  replace HB := Lib.hid (HB.out.trans (hb10.mono HB.out.size))
  clear hb10
  clear HN HO
  go_wp2_with fail
  refine Calls.mono (meet_any v5 v6 _ _ w10 HM.out HLS.out (by omega)) ?_
  rintro e w11 ⟨v11, rfl, hat11, hb11⟩
  rw [HPA.out] at hat11
  replace HP := Lib.hid (HP.out.keep hb11)
  replace HM := Lib.hid (HM.out.keep hb11)
  replace HLS := Lib.hid (HLS.out.keep hb11)
  replace HB := Lib.hid (HB.out.trans (hb11.mono HB.out.size))
  clear hb11
  have HZ := Lib.hid hat11
  clear hat11
  obtain ⟨Az, cz, hz⟩ := spans_form HZ.out
  simp only [List.length_nil] at hz
  subst hz
  clear HZ
  have ht := HPT.out
  have ti := tot_in (normT (a.take 30))
  go_wp2_with fail
  refine Calls.mono (total_any v5 _ w11 HM.out) ?_
  rintro e w12 ⟨rfl, hb12⟩
  replace HP := Lib.hid (HP.out.keep hb12)
  replace HM := Lib.hid (HM.out.keep hb12)
  replace HLS := Lib.hid (HLS.out.keep hb12)
  replace HB := Lib.hid (HB.out.trans (hb12.mono HB.out.size))
  clear hb12
  go_wp2_with fail
  refine Calls.mono (total_any v6 _ w12 HLS.out) ?_
  rintro e w13 ⟨rfl, hb13⟩
  replace HP := Lib.hid (HP.out.keep hb13)
  replace HM := Lib.hid (HM.out.keep hb13)
  replace HLS := Lib.hid (HLS.out.keep hb13)
  replace HB := Lib.hid (HB.out.trans (hb13.mono HB.out.size))
  clear hb13
  go_wp2_with fail
  refine Calls.mono (total_any v2 _ w13 HP.out) ?_
  rintro e w14 ⟨rfl, hb14⟩
  replace HP := Lib.hid (HP.out.keep hb14)
  replace HM := Lib.hid (HM.out.keep hb14)
  replace HLS := Lib.hid (HLS.out.keep hb14)
  replace HB := Lib.hid (HB.out.trans (hb14.mono HB.out.size))
  clear hb14
  generalize totF (normT (meetN (a.take 30) (b.take 30))) = t1 at *
  generalize totF (normT (lessN (a.take 30) (b.take 30))) = t2 at *
  generalize totF (normT (a.take 30)) = t3 at *
  have ht3 : (t3 == t3) = true := by simp
  go_wp2_with fail
  refine Calls.mono (awake_any w14) ?_
  rintro e w15 ⟨rfl, hb15⟩
  replace HP := Lib.hid (HP.out.keep hb15)
  replace HM := Lib.hid (HM.out.keep hb15)
  replace HLS := Lib.hid (HLS.out.keep hb15)
  replace HB := Lib.hid (HB.out.trans (hb15.mono HB.out.size))
  clear hb15
  go_wp2
  go_ret
  exact ⟨rfl, HB.out⟩

set_option maxRecDepth 100000 in
set_option maxHeartbeats 8000000 in
theorem norm_law (x : Value) (a : List Sp) (q : Int) (w : World) (hx : ArgAt w x a) : Calls Try.prog 3 #[x, .int .i64 q] w (RetB (.bool true) w) := by
  have HX := Lib.hid hx
  have HB := Lib.hid (Below.refl w.heap.size w)
  have hla := take30 a
  clear hx
  go_enter Try.func3, Try.ntmps3
  go_wp2_with fail
  refine Calls.mono (few_any x a w HX.out) ?_
  rintro e w1 ⟨u1, rfl, hat1, hw1⟩
  subst hw1
  have HU1 := Lib.hid hat1
  clear hat1
  clear HX
  generalize a.take 30 = la at *
  go_wp2_with fail
  refine Calls.mono (of_any u1 la w HU1.out) ?_
  rintro e w2 ⟨v2, rfl, hat2, hb2⟩
  replace HU1 := Lib.hid (HU1.out.keep hb2)
  replace HB := Lib.hid (HB.out.trans (hb2.mono HB.out.size))
  clear hb2
  have HP := Lib.hid hat2
  clear hat2
  go_wp2_with fail
  refine Calls.mono (norm_any v2 la w2 HP.out) ?_
  rintro e w3 ⟨v3, rfl, hat3, hb3⟩
  replace HU1 := Lib.hid (HU1.out.keep hb3)
  replace HP := Lib.hid (HP.out.keep hb3)
  replace HB := Lib.hid (HB.out.trans (hb3.mono HB.out.size))
  clear hb3
  have HN := Lib.hid hat3
  clear hat3
  clear HP
  go_wp2_with fail
  refine Calls.mono (of_any u1 la w3 HU1.out) ?_
  rintro e w4 ⟨v4, rfl, hat4, hb4⟩
  replace HU1 := Lib.hid (HU1.out.keep hb4)
  replace HN := Lib.hid (HN.out.keep hb4)
  replace HB := Lib.hid (HB.out.trans (hb4.mono HB.out.size))
  clear hb4
  have HP := Lib.hid hat4
  clear hat4
  go_wp2_with fail
  refine Calls.mono (check_any v4 la w4 HP.out) ?_
  rintro e w5 ⟨rfl, hb5⟩
  replace HU1 := Lib.hid (HU1.out.keep hb5)
  replace HN := Lib.hid (HN.out.keep hb5)
  replace HP := Lib.hid (HP.out.keep hb5)
  replace HB := Lib.hid (HB.out.trans (hb5.mono HB.out.size))
  clear hb5
  clear HP
  have HRT := Lib.hid (fun (v : Value) (W : World) (h : SpansAt W v la) => refRight_any v la W h)
  have HCN := Lib.hid (fun (v : Value) (W : World) (h : SpansAt W v (normT la)) => check_any v (normT la) W h)
  rw [right_norm] at HCN
  have he0 : errOf true = 0 := rfl
  have he1 : errOf false = 1 := rfl
  rw [he0] at HCN
  have HHN := Lib.hid (fun (v : Value) (W : World) (h : SpansAt W v (normT la)) => has_any v (normT la) q W h)
  rw [any_norm] at HHN
  have HHL := Lib.hid (fun (v : Value) (W : World) (h : SpansAt W v la) => has_any v la q W h)
  have HHR := Lib.hid (fun (v : Value) (W : World) (h : SpansAt W v la) => refHas_any v la q W h)
  have HTL := Lib.hid (fun (v : Value) (W : World) (h : SpansAt W v la) => total_any v la W h)
  have HTR := Lib.hid (fun (v : Value) (W : World) (h : SpansAt W v la) => refTotal_any v la W h (by omega))
  rw [op_norm] at HTR
  generalize totF (normT la) = tt at *
  generalize la.any (inS q) = hh at *
  generalize rightB la = R at *
  have ht1 : (tt == tt) = true := by simp
  have ht2 : (hh == hh) = true := by simp
  cases R
  · rw [he1]
    go_wp2_with fail
    refine Calls.mono (op0_any u1 (.slice none 0 0) la [] w5 HU1.out (SpansAt.nil _) (by simp only [List.length_nil]; omega)) ?_
    rintro e w6 ⟨v6, rfl, hat6, hb6⟩
    rw [op_norm] at hat6
    replace HU1 := Lib.hid (HU1.out.keep hb6)
    replace HN := Lib.hid (HN.out.keep hb6)
    replace HB := Lib.hid (HB.out.trans (hb6.mono HB.out.size))
    clear hb6
    have HO := Lib.hid hat6
    clear hat6
    go_wp2_with fail
    refine Calls.mono (same_any v3 v6 _ w6 HN.out HO.out) ?_
    rintro e w7 ⟨rfl, hb7⟩
    replace HU1 := Lib.hid (HU1.out.keep hb7)
    replace HN := Lib.hid (HN.out.keep hb7)
    replace HO := Lib.hid (HO.out.keep hb7)
    replace HB := Lib.hid (HB.out.trans (hb7.mono HB.out.size))
    clear hb7
    clear HO
    go_wp2_with fail
    refine Calls.mono (HRT.out u1 w7 HU1.out) ?_
    rintro e w8 ⟨rfl, hb8⟩
    replace HU1 := Lib.hid (HU1.out.keep hb8)
    replace HN := Lib.hid (HN.out.keep hb8)
    replace HB := Lib.hid (HB.out.trans (hb8.mono HB.out.size))
    clear hb8
    go_wp2_with fail
    refine Calls.mono (HCN.out v3 w8 HN.out) ?_
    rintro e w9 ⟨rfl, hb9⟩
    replace HU1 := Lib.hid (HU1.out.keep hb9)
    replace HN := Lib.hid (HN.out.keep hb9)
    replace HB := Lib.hid (HB.out.trans (hb9.mono HB.out.size))
    clear hb9
    go_wp2_with fail
    refine Calls.mono (of_any u1 la w9 HU1.out) ?_
    rintro e w10 ⟨v10, rfl, hat10, hb10⟩
    replace HU1 := Lib.hid (HU1.out.keep hb10)
    replace HN := Lib.hid (HN.out.keep hb10)
    replace HB := Lib.hid (HB.out.trans (hb10.mono HB.out.size))
    clear hb10
    have HP := Lib.hid hat10
    clear hat10
    go_wp2_with fail
    refine Calls.mono (HHL.out v10 w10 HP.out) ?_
    rintro e w11 ⟨rfl, hb11⟩
    replace HU1 := Lib.hid (HU1.out.keep hb11)
    replace HN := Lib.hid (HN.out.keep hb11)
    replace HP := Lib.hid (HP.out.keep hb11)
    replace HB := Lib.hid (HB.out.trans (hb11.mono HB.out.size))
    clear hb11
    clear HP
    go_wp2_with fail
    refine Calls.mono (HHR.out u1 w11 HU1.out) ?_
    rintro e w12 ⟨rfl, hw12⟩
    subst hw12
    go_wp2_with fail
    refine Calls.mono (HHN.out v3 w11 HN.out) ?_
    rintro e w13 ⟨rfl, hb13⟩
    replace HU1 := Lib.hid (HU1.out.keep hb13)
    replace HN := Lib.hid (HN.out.keep hb13)
    replace HB := Lib.hid (HB.out.trans (hb13.mono HB.out.size))
    clear hb13
    go_wp2_with fail
    refine Calls.mono (HHR.out u1 w13 HU1.out) ?_
    rintro e w14 ⟨rfl, hw14⟩
    subst hw14
    go_wp2_with fail
    refine Calls.mono (of_any u1 la w13 HU1.out) ?_
    rintro e w15 ⟨v15, rfl, hat15, hb15⟩
    replace HU1 := Lib.hid (HU1.out.keep hb15)
    replace HN := Lib.hid (HN.out.keep hb15)
    replace HB := Lib.hid (HB.out.trans (hb15.mono HB.out.size))
    clear hb15
    have HP := Lib.hid hat15
    clear hat15
    go_wp2_with fail
    refine Calls.mono (HTL.out v15 w15 HP.out) ?_
    rintro e w16 ⟨rfl, hb16⟩
    replace HU1 := Lib.hid (HU1.out.keep hb16)
    replace HN := Lib.hid (HN.out.keep hb16)
    replace HP := Lib.hid (HP.out.keep hb16)
    replace HB := Lib.hid (HB.out.trans (hb16.mono HB.out.size))
    clear hb16
    clear HP
    go_wp2_with fail
    refine Calls.mono (HTR.out u1 w16 HU1.out) ?_
    rintro e w17 ⟨rfl, hb17⟩
    replace HU1 := Lib.hid (HU1.out.keep hb17)
    replace HN := Lib.hid (HN.out.keep hb17)
    replace HB := Lib.hid (HB.out.trans (hb17.mono HB.out.size))
    clear hb17
    go_wp2_with fail
    refine Calls.mono (awake_any w17) ?_
    rintro e w18 ⟨rfl, hb18⟩
    replace HU1 := Lib.hid (HU1.out.keep hb18)
    replace HN := Lib.hid (HN.out.keep hb18)
    replace HB := Lib.hid (HB.out.trans (hb18.mono HB.out.size))
    clear hb18
    go_wp2
    go_ret
    exact ⟨rfl, HB.out⟩
  · rw [he0]
    go_wp2_with fail
    refine Calls.mono (op0_any u1 (.slice none 0 0) la [] w5 HU1.out (SpansAt.nil _) (by simp only [List.length_nil]; omega)) ?_
    rintro e w6 ⟨v6, rfl, hat6, hb6⟩
    rw [op_norm] at hat6
    replace HU1 := Lib.hid (HU1.out.keep hb6)
    replace HN := Lib.hid (HN.out.keep hb6)
    replace HB := Lib.hid (HB.out.trans (hb6.mono HB.out.size))
    clear hb6
    have HO := Lib.hid hat6
    clear hat6
    go_wp2_with fail
    refine Calls.mono (same_any v3 v6 _ w6 HN.out HO.out) ?_
    rintro e w7 ⟨rfl, hb7⟩
    replace HU1 := Lib.hid (HU1.out.keep hb7)
    replace HN := Lib.hid (HN.out.keep hb7)
    replace HO := Lib.hid (HO.out.keep hb7)
    replace HB := Lib.hid (HB.out.trans (hb7.mono HB.out.size))
    clear hb7
    clear HO
    go_wp2_with fail
    refine Calls.mono (HRT.out u1 w7 HU1.out) ?_
    rintro e w8 ⟨rfl, hb8⟩
    replace HU1 := Lib.hid (HU1.out.keep hb8)
    replace HN := Lib.hid (HN.out.keep hb8)
    replace HB := Lib.hid (HB.out.trans (hb8.mono HB.out.size))
    clear hb8
    go_wp2_with fail
    refine Calls.mono (HCN.out v3 w8 HN.out) ?_
    rintro e w9 ⟨rfl, hb9⟩
    replace HU1 := Lib.hid (HU1.out.keep hb9)
    replace HN := Lib.hid (HN.out.keep hb9)
    replace HB := Lib.hid (HB.out.trans (hb9.mono HB.out.size))
    clear hb9
    go_wp2_with fail
    refine Calls.mono (of_any u1 la w9 HU1.out) ?_
    rintro e w10 ⟨v10, rfl, hat10, hb10⟩
    replace HU1 := Lib.hid (HU1.out.keep hb10)
    replace HN := Lib.hid (HN.out.keep hb10)
    replace HB := Lib.hid (HB.out.trans (hb10.mono HB.out.size))
    clear hb10
    have HP := Lib.hid hat10
    clear hat10
    go_wp2_with fail
    refine Calls.mono (HHL.out v10 w10 HP.out) ?_
    rintro e w11 ⟨rfl, hb11⟩
    replace HU1 := Lib.hid (HU1.out.keep hb11)
    replace HN := Lib.hid (HN.out.keep hb11)
    replace HP := Lib.hid (HP.out.keep hb11)
    replace HB := Lib.hid (HB.out.trans (hb11.mono HB.out.size))
    clear hb11
    clear HP
    go_wp2_with fail
    refine Calls.mono (HHR.out u1 w11 HU1.out) ?_
    rintro e w12 ⟨rfl, hw12⟩
    subst hw12
    go_wp2_with fail
    refine Calls.mono (HHN.out v3 w11 HN.out) ?_
    rintro e w13 ⟨rfl, hb13⟩
    replace HU1 := Lib.hid (HU1.out.keep hb13)
    replace HN := Lib.hid (HN.out.keep hb13)
    replace HB := Lib.hid (HB.out.trans (hb13.mono HB.out.size))
    clear hb13
    go_wp2_with fail
    refine Calls.mono (HHR.out u1 w13 HU1.out) ?_
    rintro e w14 ⟨rfl, hw14⟩
    subst hw14
    go_wp2_with fail
    refine Calls.mono (of_any u1 la w13 HU1.out) ?_
    rintro e w15 ⟨v15, rfl, hat15, hb15⟩
    replace HU1 := Lib.hid (HU1.out.keep hb15)
    replace HN := Lib.hid (HN.out.keep hb15)
    replace HB := Lib.hid (HB.out.trans (hb15.mono HB.out.size))
    clear hb15
    have HP := Lib.hid hat15
    clear hat15
    go_wp2_with fail
    refine Calls.mono (HTL.out v15 w15 HP.out) ?_
    rintro e w16 ⟨rfl, hb16⟩
    replace HU1 := Lib.hid (HU1.out.keep hb16)
    replace HN := Lib.hid (HN.out.keep hb16)
    replace HP := Lib.hid (HP.out.keep hb16)
    replace HB := Lib.hid (HB.out.trans (hb16.mono HB.out.size))
    clear hb16
    clear HP
    go_wp2_with fail
    refine Calls.mono (HTR.out u1 w16 HU1.out) ?_
    rintro e w17 ⟨rfl, hb17⟩
    replace HU1 := Lib.hid (HU1.out.keep hb17)
    replace HN := Lib.hid (HN.out.keep hb17)
    replace HB := Lib.hid (HB.out.trans (hb17.mono HB.out.size))
    clear hb17
    go_wp2_with fail
    refine Calls.mono (awake_any w17) ?_
    rintro e w18 ⟨rfl, hb18⟩
    replace HU1 := Lib.hid (HU1.out.keep hb18)
    replace HN := Lib.hid (HN.out.keep hb18)
    replace HB := Lib.hid (HB.out.trans (hb18.mono HB.out.size))
    clear hb18
    go_wp2
    go_ret
    exact ⟨rfl, HB.out⟩
end Go.Proofs.Ytkldinppmnjmbaa
