/-
  The page's example comes out.
  Conditions: none.
-/
import Derived.Test.YtpjmdnhoiobedaaExample
import Derived.Test.YtpjmdnhoiobedaaOf
import Derived.Test.YtpjmdnhoiobedaaBusy
import Derived.Test.YtpjmdnhoiobedaaTheirs
set_option linter.unusedVariables false
set_option linter.unusedSimpArgs false
namespace Go.Proofs.Ytpjmdnhoiobedaa
open Go.RowKit

def exT : List Tb := [⟨0, [2, 0, 0, 0], [(1, 3)]⟩, ⟨1, [0, 2, 2, 0], []⟩]
theorem exT_eq : tabsOf 4 3 exL = exT := by decide +kernel
theorem exT_at : atT exT 1 2 = 2 := by decide +kernel
theorem exT_loose : cntI [0, 2, 2, 0] 0 = 2 := by decide +kernel

set_option maxRecDepth 100000 in
set_option maxHeartbeats 8000000 in
theorem awake_any (w : World) : Calls Try.prog 8 #[] w (RetB (.bool true) w) := by
  have HOF := Lib.hid (fun v W h => of_right 4 3 v exL W h exL_light exL_right)
  rw [exT_eq] at HOF
  have HAT := Lib.hid (fun v W h => tabAt_any v exT 1 2 W h (by decide) ⟨by decide, by decide⟩)
  rw [exT_at] at HAT
  unfold planA at HOF
  obtain ⟨w1, Q, hw1, hQ, hQl, hb1, hqb⟩ := box_any w #[.int .i64 0, .int .u64 1, .int .i64 1, .int .u64 6] 61
  obtain ⟨w2, R, hw2, hR, hRl, hb2, hrb⟩ := box_any w1 #[.int .i64 1, .int .i64 3, .int .i64 0, .slice none 0 0, .int .i64 2, .int .i64 3, .int .i64 0, .slice (some ⟨Q, 0, none⟩) 2 2] 56
  obtain ⟨w3, P, hw3, hP, hPl, hb3, hpb⟩ := box_any w2 #[.int .i64 4, .int .u32 3, .slice (some ⟨R, 0, none⟩) 2 2] 25
  have HB3 := Lib.hid ((hb1.trans (hb2.mono hb1.size)).trans (hb3.mono (Nat.le_trans hb1.size hb2.size)))
  have HPL := Lib.hid ((ex_pls (keep_block hqb hb2) hrb Any trivial trivial).keep hb3)
  obtain ⟨r0, r1, r2⟩ := three_heads hpb
  clear hb1 hb2 hb3 hqb hrb hpb
  go_enter Try.func8, Try.ntmps8
  go_wp2_with fail
  refine (HOF.out _ _ HPL.out).mono ?_
  rintro e w4 ⟨v4, rfl, ht4, hb4⟩
  have HB4 := Lib.hid (HB3.out.trans (hb4.mono HB3.out.size))
  obtain ⟨A, cA, rfl, _, _⟩ := ht4.form
  have HT4 := Lib.hid ht4
  clear hb4 ht4 r0 r1 r2 hw1 hw2 hw3 hQ hR hP hQl hRl hPl
  have e2 : exT.length = 2 := rfl
  rw [e2] at HT4 ⊢
  clear e2
  go_wp2_with fail
  refine (HAT.out _ _ HT4.out).mono ?_
  rintro e w5 ⟨b, rfl, hb, hb5⟩
  obtain rfl : b = true := hb
  have HB5 := Lib.hid (HB4.out.trans (hb5.mono HB4.out.size))
  have HT5 := Lib.hid (HT4.out.keep hb5)
  clear hb5
  obtain ⟨tb, off, A1, c1, A2, c2, hA, hbl, g0, g1, g2, hi1, hs1⟩ := HT5.out.at_ (j := 0) rfl
  subst hA
  obtain ⟨tb', off', B1, d1, B2, d2, hA, _, k0, k1, k2, hi2, hs2⟩ := HT5.out.at_ (j := 1) rfl
  injection hA with hA
  injection hA with e1 e2
  subst e1 e2
  simp only [Nat.zero_mul, Nat.one_mul, Nat.add_zero] at g0 g1 g2 k0 k1 k2
  obtain ⟨w6, I, hw6, hI, hIl, hb6, hib⟩ := box_any w5 #[.int .i64 2, .int .i64 0, .int .i64 0, .int .i64 0] 3
  obtain ⟨w7, J, hw7, hJ, hJl, hb7, hjb⟩ := box_any w6 #[.int .i64 1, .int .i64 3] 58
  have HB7 := Lib.hid (HB5.out.trans ((hb6.trans (hb7.mono hb6.size)).mono HB5.out.size))
  have HI7 : Hid (IntsAt w7 (.slice (some ⟨I, 0, none⟩) 4 4) [2, 0, 0, 0]) := Lib.hid (by
    have h : RowAt w6 I [2, 0, 0, 0] := hib
    exact (h.ints (by decide) 4).keep hb7)
  have HS7 : Hid (SpansAt w7 (.slice (some ⟨J, 0, none⟩) 1 1) [(1, 3)]) := Lib.hid (by
    refine ⟨_, 1, rfl, by decide, by decide, by decide, fun _ => ⟨J, 0, rfl, hJl, fun j p hp => ?_⟩⟩
    have h := (List.getElem?_eq_some_iff.1 hp).1
    obtain rfl : j = 0 := by simp at h; omega
    cases hp
    exact ⟨by simp [World.cell?, hjb], by simp [World.cell?, hjb]⟩)
  have hk := hb6.trans (hb7.mono hb6.size)
  have HTH := Lib.hid (theirs_any ⟨0, [2, 0, 0, 0], [(1, 3)]⟩ A1 (some ⟨I, 0, none⟩) A2 (some ⟨J, 0, none⟩) c1 4 c2 1 w7 (hi1.keep hk) HI7.out (hs1.keep hk) HS7.out)
  simp only [List.length_cons, List.length_nil, Nat.zero_add, Nat.reduceAdd] at HTH g0 g1 g2 k0 k1 k2
  have HI2 := Lib.hid (hi2.keep hk)
  have k0' := (hk.cell (p := ⟨tb, off + 3, none⟩) hbl).trans k0
  have k1' := (hk.cell (p := ⟨tb, off + 3 + 1, none⟩) hbl).trans k1
  have k2' := (hk.cell (p := ⟨tb, off + 3 + 2, none⟩) hbl).trans k2
  have hbl7 : tb < w7.heap.size := Nat.lt_of_lt_of_le hbl hk.size
  clear hb6 hb7 hib hjb hi1 hs1 hi2 hs2 hk k0 k1 k2
  go_wp2_with fail
  refine HTH.out.mono ?_
  rintro e w8 ⟨rfl, hb8⟩
  have HB8 := Lib.hid (HB7.out.trans (hb8.mono HB7.out.size))
  have HLO := Lib.hid (loose_any ((B1, d1), (B2, d2), ⟨1, [0, 2, 2, 0], []⟩) w8 (HI2.out.keep hb8) (show ([0, 2, 2, 0] : List Int).length ≤ 1000 by decide))
  unfold tbA tV1 tV2 at HLO
  simp only [exT_loose, List.length_cons, List.length_nil, Nat.zero_add, Nat.reduceAdd] at HLO
  have k0 := (hb8.cell (p := ⟨tb, off + 3, none⟩) hbl7).trans k0'
  have k1 := (hb8.cell (p := ⟨tb, off + 3 + 1, none⟩) hbl7).trans k1'
  have k2 := (hb8.cell (p := ⟨tb, off + 3 + 2, none⟩) hbl7).trans k2'
  clear hb8 k0' k1' k2' g0 g1 g2 hw6 hw7
  go_wp2_with fail
  refine HLO.out.mono ?_
  rintro e w9 ⟨rfl, hb9⟩
  have HB9 := Lib.hid (HB8.out.trans (hb9.mono HB8.out.size))
  clear hb9
  go_wp2_with fail
  go_ret
  exact ⟨rfl, HB9.out⟩
end Go.Proofs.Ytpjmdnhoiobedaa
