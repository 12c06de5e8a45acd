/-
  The program's Decode.
  Conditions: no more than 100000 bytes.
-/
import Derived.Test.YtkkaekcjinopkaaDecS
import Derived.Test.YtkkaekcjinopkaaCheck
import Derived.Test.YtkkaekcjinopkaaEnd
set_option linter.unusedVariables false
namespace Go.Proofs.Ytkkaekcjinopkaa
open Go.RowKit

set_option maxRecDepth 100000 in
set_option maxHeartbeats 4000000 in
theorem decode_any (v : Value) (bs : List Nat) (w : World) (hv : BytesAt w v bs) (hl : bs.length ≤ 100000) : Calls Try.prog 13 #[v] w (DecP bs w) := by
  have hb1 := below_new (W := w) (.cells #[.int .i64 0, .bool false, .int .i64 0, .slice none 0 0] 25)
  have hz1 : RepAt (w.alloc (.cells #[.int .i64 0, .bool false, .int .i64 0, .slice none 0 0] 25)) w.heap.size zeroR (.slice none 0 0) := RepAt.new w zeroR (.slice none 0 0)
  have hsz1 := World.size_alloc w (.cells #[.int .i64 0, .bool false, .int .i64 0, .slice none 0 0] 25)
  have HB256 := Lib.hid hv.bytes
  have HOP := Lib.hid (open_any v bs _ hl (hv.keep hb1))
  obtain ⟨n1, bs1, e1, hT1⟩ : ∃ n b e, rd1 30 bs = (n, b, e) := ⟨_, _, _, rfl⟩
  obtain ⟨n2, bs2, e2, hT2⟩ : ∃ n b e, rd2 30 1 bs = (n, b, e) := ⟨_, _, _, rfl⟩
  obtain ⟨n3, bs3, e3, hT3⟩ : ∃ n b e, rd3 30 1 255 bs = (n, b, e) := ⟨_, _, _, rfl⟩
  obtain ⟨c, bs4, e4, hT4⟩ : ∃ n b e, rd4 30 1 255 20 bs = (n, b, e) := ⟨_, _, _, rfl⟩
  have t1 : numT bs 0 30 = (n1, bs1, e1) := hT1
  have t2 : numT bs1 e1 1 = (n2, bs2, e2) := by rw [← hT2]; unfold rd2; rw [hT1]
  have t3 : numT bs2 e2 255 = (n3, bs3, e3) := by rw [← hT3]; unfold rd3; rw [hT2]
  have t4 : numT bs3 e3 20 = (c, bs4, e4) := by rw [← hT4]; unfold rd4; rw [hT3]
  have l1 : n1 ≤ 30 := by have := numT_le bs 0 30; rwa [t1] at this
  have l2 : n2 ≤ 1 := by have := numT_le bs1 e1 1; rwa [t2] at this
  have l3 : n3 ≤ 255 := by have := numT_le bs2 e2 255; rwa [t3] at this
  have hc : c ≤ 20 := by have := numT_le bs3 e3 20; rwa [t4] at this
  have HT1 := Lib.hid t1
  have HT2 := Lib.hid t2
  have HT3 := Lib.hid t3
  have HT4 := Lib.hid t4
  have hq : ((n2 : Int) == 1) = (n2 == 1) := by
    have : n2 = 0 ∨ n2 = 1 := by omega
    rcases this with rfl | rfl <;> rfl
  have HREAD := Lib.hid (fun k => show readR 30 1 255 20 bs k = ⟨n1, n2 == 1, n3, (rdK bs4 e4 k).1.map fun n : Nat => (n : Int)⟩ by unfold readR; rw [hT1, hT2, hT3, hT4])
  have HYES := Lib.hid (fun h hr => dec_yes HB256.out (k := c) (by rw [hT4]) h hr)
  have HNOO := Lib.hid (fun h => dec_no (bs := bs) (k := c) (by rw [hT4]) h)
  rw [hT4] at HYES HNOO
  generalize (n2 == 1) = q at *
  have w1' : IntKind.i64.wrap (n1 : Int) = (n1 : Int) := by rw [IntWalk.i64_in _ (by omega)]
  have w3' : IntKind.i64.wrap (n3 : Int) = (n3 : Int) := by rw [IntWalk.i64_in _ (by omega)]
  clear t1 t2 t3 t4 hT1 hT2 hT3 hT4 l1 l2 l3 hv
  go_enter Try.func13, Try.ntmps13
  go_upto_region 1 with fail
  have HZ := Lib.hid hz1
  have HB := Lib.hid hb1
  generalize w.alloc (.cells #[.int .i64 0, .bool false, .int .i64 0, .slice none 0 0] 25) = wa at *
  clear hz1 hb1
  go_wp2_with fail
  refine HOP.out.mono ?_
  rintro e w2 ⟨g, rfl, hg, hb2, hr2⟩
  have hgl := hr2.lt
  have hsz2 := hb2.size
  have hb3 := below_new (W := w2) (.cells #[.int .i64 0, .bool false, .int .i64 0, .slice none 0 0] 25)
  have hsz3 := World.size_alloc w2 (.cells #[.int .i64 0, .bool false, .int .i64 0, .slice none 0 0] 25)
  obtain ⟨rb, hrb⟩ : ∃ rb, rb = w2.heap.size := ⟨_, rfl⟩
  obtain ⟨base, hbase⟩ : ∃ base, base = w2.heap.size + 1 := ⟨_, rfl⟩
  have HO := Lib.hid (show DecO w.heap.size g rb base from ⟨by omega, by omega, by omega⟩)
  have hr3 : RepAt (w2.alloc (.cells #[.int .i64 0, .bool false, .int .i64 0, .slice none 0 0] 25)) w2.heap.size zeroR (.slice none 0 0) := RepAt.new w2 zeroR (.slice none 0 0)
  rw [← hrb] at hr3
  have HS3 := Lib.hid (show DecS w.heap.size g rb base w bs 0 zeroR (.slice none 0 0) (w2.alloc (.cells #[.int .i64 0, .bool false, .int .i64 0, .slice none 0 0] 25)) from
    ⟨(HZ.out.keep hb2).keep hb3, hr2.keep hb3, hr3, HB.out.trans ((hb2.trans (hb3.mono hsz2)).mono HB.out.size), by rw [hsz3]; omega⟩)
  have hrbb := hrb
  have HRB := Lib.hid hrb
  clear hb2 hr2 hb3 hr3 hgl hsz2 hsz3 hg hsz1 hbase hrbb
  go_upto_region 3 with fail
  rw [← HRB.out]
  generalize w2.alloc (.cells #[.int .i64 0, .bool false, .int .i64 0, .slice none 0 0] 25) = w3 at *
  clear hrb
  go_wp2_with fail
  have h4 := read_any g bs 0 30 w3 (by decide) HS3.out.rd
  rw [HT1.out] at h4
  refine h4.mono ?_
  rintro e w4 ⟨rfl, ha4, hr4⟩
  have hs4 := HS3.out.moved HO.out ha4 hr4
  have HS4 := Lib.hid hs4
  have k4 := hs4.rep.cells.1
  have f4 := hs4.rep.frozen 0
  have HS5 := Lib.hid (hs4.set HO.out (hs4.rep.set0 n1))
  clear h4 ha4 hr4 hs4
  go_upto_region 4 with fail
  generalize w4.setCell ⟨rb, 0, none⟩ (.int .i64 n1) = w5 at *
  clear k4 f4
  go_wp2_with fail
  have h4 := read_any g bs1 e1 1 w5 (by decide) HS5.out.rd
  rw [HT2.out] at h4
  refine h4.mono ?_
  rintro e w6 ⟨rfl, ha4, hr4⟩
  have hs4 := HS5.out.moved HO.out ha4 hr4
  have k4 := hs4.rep.cells.2.1
  have f4 := hs4.rep.frozen 1
  have HS7 := Lib.hid (hs4.set HO.out (hs4.rep.set1 q))
  clear h4 ha4 hr4 hs4
  go_upto_region 5 with fail
  generalize w6.setCell ⟨rb, 1, none⟩ (.bool q) = w7 at *
  clear k4 f4 hq
  go_wp2_with fail
  have h4 := read_any g bs2 e2 255 w7 (by decide) HS7.out.rd
  rw [HT3.out] at h4
  refine h4.mono ?_
  rintro e w8 ⟨rfl, ha4, hr4⟩
  have hs4 := HS7.out.moved HO.out ha4 hr4
  have k4 := hs4.rep.cells.2.2.1
  have f4 := hs4.rep.frozen 2
  have HS9 := Lib.hid (hs4.set HO.out (hs4.rep.set2 n3))
  clear h4 ha4 hr4 hs4
  go_upto_region 6 with fail
  generalize w8.setCell ⟨rb, 2, none⟩ (.int .i64 n3) = w9 at *
  clear k4 f4
  go_wp2_with fail
  have h4 := read_any g bs3 e3 20 w9 (by decide) HS9.out.rd
  rw [HT4.out] at h4
  refine h4.mono ?_
  rintro e w10 ⟨rfl, ha4, hr4⟩
  have HS10 := Lib.hid (HS9.out.moved HO.out ha4 hr4)
  clear h4 ha4 hr4
  go_wp2_with fail
  go_loopg [22] c (fun gg s22 wr => ∃ k : Nat, k ≤ c ∧ gg = c - k ∧ s22 = .int .u64 k ∧ ∃ v, DecS w.heap.size g rb base w (rdK bs4 e4 k).2.1 (rdK bs4 e4 k).2.2 ⟨n1, q, n3, (rdK bs4 e4 k).1.map fun n : Nat => (n : Int)⟩ v wr ∧ OwnK .i64 3 wr base v (rdK bs4 e4 k).1)
  case atStart => exact ⟨0, Nat.zero_le _, rfl, rfl, _, HS10.out, OwnK.nil _ _ _ _⟩
  case round =>
    obtain ⟨k, hk, hg, rfl, v, hsr, hown⟩ := hrel
    have HG := Lib.hid hg
    have HXL := Lib.hid (show (rdK bs4 e4 k).1.length ≤ 20 by rw [rdK_length]; omega)
    clear hg
    by_cases hlt : k < c
    · have hltz : (k : Int) < (c : Int) := by omega
      have HGB := Lib.hid (show g < base by have := HO.out.b; have := HO.out.c; omega)
      have hx1 : rdK bs4 e4 (k + 1) = ((rdK bs4 e4 k).1 ++ [(numT (rdK bs4 e4 k).2.1 (rdK bs4 e4 k).2.2 maxI).1], (numT (rdK bs4 e4 k).2.1 (rdK bs4 e4 k).2.2 maxI).2) := rfl
      have hyl := numT_le (rdK bs4 e4 k).2.1 (rdK bs4 e4 k).2.2 maxI
      generalize hRK : rdK bs4 e4 k = RK at *
      obtain ⟨xs, bsk, ek⟩ := RK
      simp only at *
      obtain ⟨Y, bsy, ey, hTK⟩ : ∃ n b e, numT bsk ek maxI = (n, b, e) := ⟨_, _, _, rfl⟩
      rw [hTK] at hx1 hyl
      have HTK := Lib.hid (show numT bsk ek 9223372036854775807 = (Y, bsy, ey) from hTK)
      have HX1 := Lib.hid hx1
      have HXS := Lib.hid hx1
      have hyw : IntKind.i64.wrap (Y : Int) = (Y : Int) := by unfold maxI at hyl; rw [IntWalk.i64_in _ (by simp only at hyl; omega)]
      have hk1 : IntKind.u64.wrap ((k : Int) + 1) = ((k + 1 : Nat) : Int) := by rw [IntKind.wrap_u64]; omega
      have HK1 := Lib.hid hk1
      obtain ⟨A, cap, rfl⟩ := hown.form
      have HSR := Lib.hid hsr
      have HOW := Lib.hid hown
      clear hx1 hyl hTK hsr hown hRK
      go_wp2_with fail
      have HSD := Lib.hid (HSR.out.stay HO.out (show Below base wr wr.drew from below_drewN (Below.refl _ _) 1))
      have e3 : wr.drew.cell? ⟨rb, 3, none⟩ = some (.slice A xs.length cap) := HSD.out.rep.cells.2.2.2
      refine wp_region_N (S1 := fun _ => True) (S2 := fun W' => W'.cell? ⟨rb, 3, none⟩ = some (.slice A xs.length cap)) (N := fun i => i != 8) (by kernel_rfl) ?_
      change wpAnyN _ _ _ _ _ _ _ 9 (Array.replicate 9 false) _ _
      refine wpAnyN_take false (i := 0) (v := .pointer (some ⟨rb, 3, none⟩)) rfl (by kernel_rfl) (by kernel_rfl) (by kernel_rfl) (fun _ _ _ h => h) (.inl ⟨by kernel_rfl, fun W hS => ?_⟩) ⟨trivial, fun h => by cases h⟩ ?_
      · simp [execOp, Act.eval, go_sem]
      refine wpAnyN_take true (i := 1) (v := .slice A xs.length cap) rfl (by kernel_rfl) (by kernel_rfl) (by kernel_rfl) (fun _ _ _ h => h) (.inl ⟨by kernel_rfl, fun W hS => ?_⟩) ⟨trivial, fun h => e3⟩ ?_
      · simp [execOp, Act.eval, Act.put, go_sem, hS.2 rfl]
      refine wpAnyN_take false (i := 2) (v := .pointer (some ⟨g, 0, none⟩)) rfl (by kernel_rfl) (by kernel_rfl) (by kernel_rfl) (fun _ _ _ h => h) (.inl ⟨by kernel_rfl, fun W hS => ?_⟩) ⟨trivial, fun h => by cases h⟩ ?_
      · simp [execOp, Act.eval, Act.put, go_sem]
      refine wpAnyN_step (i := 3) (by kernel_rfl) rfl (by kernel_rfl) ?_
      intro K' hK
      try simp only [Act.put]
      go_simp
      refine (read_any g bsk ek 9223372036854775807 _ (by decide) HSD.out.rd).mono ?_
      rw [HTK.out]
      rintro e w5 ⟨rfl, ha5, hr5⟩
      have hs5 := HSD.out.moved HO.out ha5 hr5
      have HS5 := Lib.hid hs5
      have HW5 := Lib.hid ((show OwnK .i64 3 wr.drew base (.slice A xs.length cap) xs from HOW.out.keep (below_drewN (Below.refl _ _) 1)).moved ha5 HGB.out)
      have e5 : w5.cell? ⟨rb, 3, none⟩ = some (.slice A xs.length cap) := hs5.rep.cells.2.2.2
      clear ha5 hr5 hs5
      refine hK.out _ _ trivial (fun _ _ => e5) ?_
      refine wpAnyN_step (i := 4) (by kernel_rfl) rfl (by kernel_rfl) ?_
      intro K' hK
      go_simp
      refine hK.out _ _ trivial (fun _ _ => e5) ?_
      refine wpAnyN_step (i := 5) (by kernel_rfl) rfl (by kernel_rfl) ?_
      intro K' hK
      try simp only [Act.put]
      go_simp
      have hb6 := below_new (W := w5) (.cells #[.int .i64 Y] 3)
      have hs6 := HS5.out.stay HO.out (hb6.mono HS5.out.size)
      have HS6 := Lib.hid hs6
      have HW6 := Lib.hid (HW5.out.alloc (.cells #[.int .i64 Y] 3))
      have hc6 := (Boxed.new w5 3 (.int .i64 Y)).cell
      have e6 : (w5.alloc (.cells #[.int .i64 Y] 3)).cell? ⟨rb, 3, none⟩ = some (.slice A xs.length cap) := hs6.rep.cells.2.2.2
      clear hb6 hs6
      refine hK.out _ _ trivial (fun _ _ => e6) ?_
      generalize w5.alloc (.cells #[.int .i64 Y] 3) = w6 at *
      refine wpAnyN_step (i := 6) (by kernel_rfl) rfl (by kernel_rfl) ?_
      intro K' hK
      refine wp_append_num _ _ 23 .i64 3 rfl base Try.underlying23 Try.infoInt _ xs rfl HW6.out w5.heap.size 1 Y rfl hc6 (by have := HXL.out; omega) HS6.out.size ?_
      intro v7 w7 hown7 hb7
      obtain ⟨A7, cap7, rfl⟩ := hown7.form
      have hl7 : (xs ++ [Y]).length = xs.length + 1 := by simp
      rw [hl7] at hown7
      have hs7 := HS6.out.stay HO.out hb7
      have HS7 := Lib.hid hs7
      have HW7 := Lib.hid hown7
      have e7 := hs7.rep.cells.2.2.2
      have f7 := hs7.rep.frozen 3
      clear hb7 hs7 hown7 hc6
      refine hK.out _ _ trivial (fun _ _ => e7) ?_
      refine wpAnyN_step (i := 7) (by kernel_rfl) rfl (by kernel_rfl) ?_
      intro K' hK
      try simp only [Act.put]
      go_simp
      refine hK.out _ _ trivial (fun _ _ => e7) ?_
      refine wpAnyN_step (i := 8) (by kernel_rfl) rfl (by kernel_rfl) ?_
      intro K' hK
      try simp only [Act.put]
      go_simp
      refine hK.out _ _ trivial (fun h => by cases h) ?_
      refine wpAnyN_done (by kernel_rfl) ?_
      try simp only [Act.put]
      try go_simp
      have HS8 := Lib.hid (HS7.out.set HO.out (HS7.out.rep.set3 (.slice A7 (xs.length + 1) cap7) ((xs ++ [Y]).map fun n : Nat => (n : Int))))
      have HW8 := Lib.hid (HW7.out.set HO.out.c (.slice A7 (xs.length + 1) cap7) (j := 3))
      generalize w7.setCell ⟨rb, 3, none⟩ (.slice A7 (xs.length + 1) cap7) = w8 at *
      clear e3 e5 e6 e7 f7
      go_wp2_with fail
      go_roundg (c - (k + 1))
      case measure => have := HG.out; omega
      case rel =>
        refine ⟨k + 1, by omega, rfl, by first | rfl | (simp; done), .slice A7 (xs.length + 1) cap7, ?_, ?_⟩
        · have h := HS8.out
          rw [HXS.out]
          exact h
        · have h := HW8.out
          rw [HX1.out]
          exact h
    · have hltz : ¬ (k : Int) < (c : Int) := by omega
      have hkc : k = c := by omega
      subst hkc
      have hrd := HREAD.out k
      have hints := hown.ints (by rw [rdK_length]; omega)
      have HEN := Lib.hid (end_any g _ _ wr hsr.rd)
      rw [hrd] at HYES HNOO
      generalize hRK : rdK bs4 e4 k = RK at *
      obtain ⟨xs, bsk, ek⟩ := RK
      simp only at *
      obtain ⟨A, cap, rfl⟩ := hown.form
      have HSR := Lib.hid hsr
      have HOW := Lib.hid hown
      obtain ⟨c0, c1, c2, c3⟩ := hsr.rep.cells
      have HC := Lib.hid (check_any ⟨n1, q, n3, xs.map fun n : Nat => (n : Int)⟩ _ wr hints)
      generalize endI bsk ek = E at *
      clear hRK hrd hown hsr hlt
      by_cases hE : E = 0
      · subst hE
        cases hr : rightB ⟨n1, q, n3, xs.map fun n : Nat => (n : Int)⟩ with
        | true =>
          have hck : checkI ⟨n1, q, n3, xs.map fun n : Nat => (n : Int)⟩ = 0 := by unfold checkI; rw [hr]; rfl
          rw [hck] at HC
          have HDY := Lib.hid (HYES.out rfl hr)
          clear hck hr
          go_wp2_with (first | (go_at_call 25; refine HEN.out.mono ?_; rintro e w' ⟨rfl, rfl⟩) | fail)
          refine HC.out.mono ?_
          rintro e w11 ⟨rfl, hb11⟩
          have hs := HSR.out.stay HO.out (hb11.mono HSR.out.size)
          have HW11 := Lib.hid (HOW.out.keep hb11)
          clear c0 c1 c2 c3
          obtain ⟨c0, c1, c2, c3⟩ := hs.rep.cells
          obtain ⟨z0, z1, z2, z3⟩ := hs.z.cells
          have fz := hs.z.frozen
          have HD := Lib.hid (show RepAt ((((w11.setCell ⟨w.heap.size, 0, none⟩ (.int .i64 n1)).setCell ⟨w.heap.size, 1, none⟩ (.bool q)).setCell ⟨w.heap.size, 2, none⟩ (.int .i64 n3)).setCell ⟨w.heap.size, 3, none⟩ (.slice A xs.length cap)) w.heap.size ⟨n1, q, n3, xs.map fun n : Nat => (n : Int)⟩ (.slice A xs.length cap) from hs.z.all ⟨n1, q, n3, xs.map fun n : Nat => (n : Int)⟩ (.slice A xs.length cap))
          have HBF := Lib.hid ((((hs.below.setCell (p := ⟨w.heap.size, 0, none⟩) (Nat.le_refl _) (.int .i64 n1)).setCell (p := ⟨w.heap.size, 1, none⟩) (Nat.le_refl _) (.bool q)).setCell (p := ⟨w.heap.size, 2, none⟩) (Nat.le_refl _) (.int .i64 n3)).setCell (p := ⟨w.heap.size, 3, none⟩) (Nat.le_refl _) (.slice A xs.length cap))
          have HIN := Lib.hid ((HW11.out.moved (apart_all (b := w.heap.size) (.int .i64 n1) (.bool q) (.int .i64 n3) (.slice A xs.length cap)) (by have := HO.out.a; have := HO.out.b; have := HO.out.c; omega)).ints (by have := HXL.out; omega))
          clear hs hb11 hints
          dsimp only
          repeat go_step
          refine bodyPost_ret (v := .tuple #[.agg (repA ⟨n1, q, n3, xs.map fun n : Nat => (n : Int)⟩ (.slice A xs.length cap)), .int .i64 0]) (results_row_tmp2 rfl _ _ w.heap.size _ _ _ _ rfl HD.out Try.underlying25 rfl (Try.sizeRep _ _) _ rfl) rfl ?_
          exact ⟨_, true, _, rfl, HDY.out, HIN.out, HBF.out⟩
        | false =>
          have hck : checkI ⟨n1, q, n3, xs.map fun n : Nat => (n : Int)⟩ = 1 := by unfold checkI; rw [hr]; rfl
          rw [hck] at HC
          have HNO := Lib.hid (HNOO.out (.inr hr))
          clear hck hr
          go_wp2_with (first | (go_at_call 25; refine HEN.out.mono ?_; rintro e w' ⟨rfl, rfl⟩) | fail)
          refine HC.out.mono ?_
          rintro e w11 ⟨rfl, hb11⟩
          have HS11 := Lib.hid (HSR.out.stay HO.out (hb11.mono HSR.out.size))
          clear c0 c1 c2 c3 hints hb11
          have hs := HS11.out
          obtain ⟨z0, z1, z2, z3⟩ := hs.z.cells
          have fz := hs.z.frozen
          have HD := Lib.hid (hs.z.all zeroR (.slice none 0 0))
          have HBF := Lib.hid ((((hs.below.setCell (p := ⟨w.heap.size, 0, none⟩) (Nat.le_refl _) (.int .i64 0)).setCell (p := ⟨w.heap.size, 1, none⟩) (Nat.le_refl _) (.bool false)).setCell (p := ⟨w.heap.size, 2, none⟩) (Nat.le_refl _) (.int .i64 0)).setCell (p := ⟨w.heap.size, 3, none⟩) (Nat.le_refl _) (.slice none 0 0))
          clear hs
          dsimp only
          repeat go_step
          refine bodyPost_ret (v := .tuple #[.agg (repA zeroR (.slice none 0 0)), .int .i64 3]) (results_row_tmp2 rfl _ _ w.heap.size _ _ _ _ rfl HD.out Try.underlying25 rfl (Try.sizeRep _ _) _ rfl) rfl ?_
          exact ⟨zeroR, false, _, rfl, HNO.out, IntsAt.nil _, HBF.out⟩
      · have HNO := Lib.hid (HNOO.out (.inl hE))
        have hE' : (E != 0) = true := by simpa using hE
        clear hE hints c0 c1 c2 c3
        have hs := HSR.out
        obtain ⟨z0, z1, z2, z3⟩ := hs.z.cells
        have fz := hs.z.frozen
        have HD := Lib.hid (hs.z.all zeroR (.slice none 0 0))
        have HBF := Lib.hid ((((hs.below.setCell (p := ⟨w.heap.size, 0, none⟩) (Nat.le_refl _) (.int .i64 0)).setCell (p := ⟨w.heap.size, 1, none⟩) (Nat.le_refl _) (.bool false)).setCell (p := ⟨w.heap.size, 2, none⟩) (Nat.le_refl _) (.int .i64 0)).setCell (p := ⟨w.heap.size, 3, none⟩) (Nat.le_refl _) (.slice none 0 0))
        clear hs
        go_wp2_with fail
        refine HEN.out.mono ?_
        rintro e w' ⟨rfl, rfl⟩
        dsimp only
        repeat go_step
        refine bodyPost_ret (v := .tuple #[.agg (repA zeroR (.slice none 0 0)), .int .i64 3]) (results_row_tmp2 rfl _ _ w.heap.size _ _ _ _ rfl HD.out Try.underlying25 rfl (Try.sizeRep _ _) _ rfl) rfl ?_
        exact ⟨zeroR, false, _, rfl, HNO.out, IntsAt.nil _, HBF.out⟩
end Go.Proofs.Ytkkaekcjinopkaa
