/-
  CmdBack walked.
  Conditions: start-up's two variables are as laid.
-/
import Derived.Test.YtnddojngbolbfaaDoorLawReads
set_option linter.unusedVariables false
namespace Go.Proofs.YtnddojngbolbfaaDoor
open Go.RowKit Go.Extern.Stop Go.Stop Go.Extern

theorem cmdA_eq {c d : Cmd8} (h : eq8 c d = true) : cmdA c = cmdA d := by
  rw [eq8_iff] at h
  unfold cmdA
  rw [h 0 (by decide), h 1 (by decide), h 2 (by decide), h 3 (by decide), h 4 (by decide), h 5 (by decide), h 6 (by decide), h 7 (by decide)]

set_option maxRecDepth 100000 in
set_option maxHeartbeats 8000000 in
theorem back_law (c : Cmd8) (v : Value) (bs : List Nat) (w : World) (he : Env w) (hv : BytesAt w v bs) :
    Calls Tryd.prog 6 #[.agg (cmdA c), v] w (Ans true w) := by
  have hb1 : Below w.heap.size w (w.alloc (.cells (cmdA c) 23)) := (Below.refl _ _).alloc (Nat.le_refl _) _
  have hc : CmdAt (w.alloc (.cells (cmdA c) 23)) w.heap.size c := World.alloc_heap_new _ _
  have HC := Lib.hid hc
  have HBB := Lib.hid hb1
  have HEB := Lib.hid (he.later hb1)
  have HV := Lib.hid hv
  have hbytes := hv.bytes
  obtain ⟨A, cap, rfl, _⟩ := hv
  clear he hb1 hc
  by_cases hl : 500 < bs.length
  · have hlz : (500 : Int) < (bs.length : Int) := by omega
    generalize bs.length = n at *
    go_enter Tryd.func6, Tryd.ntmps6
    go_wp2_with fail
    refine (awake_any _ HEB.out).mono ?_
    rintro e w1 ⟨rfl, hb1⟩
    go_wp2
    go_ret
    exact ⟨rfl, HBB.out.trans (hb1.mono HBB.out.size)⟩
  · have hlz : ¬ (500 : Int) < (bs.length : Int) := by omega
    have HDB := Lib.hid (fun W (h : Below w.heap.size w W) => decode_law _ bs W (HV.out.keep h) (by omega))
    have HBAD := Lib.hid (fun h => decodeT_bad (bs := bs) h)
    have HBACK := Lib.hid (fun h => encode_decodeT (bs := bs) hbytes h)
    unfold DecP at HDB
    generalize hT : decodeT bs = T at *
    clear hT hbytes
    obtain ⟨d, ks⟩ := T
    generalize bs.length = n at *
    clear hl
    go_enter Tryd.func6, Tryd.ntmps6
    go_upto_region 1 with fail
    generalize w.alloc (.cells (cmdA c) 23) = wb at *
    obtain ⟨d0, d1, d2, d3, d4, d5, d6, d7⟩ := HC.out.eight
    have hn := fun W => run_neq_nil_nil (P := Tryd.prog) W 27 (by kernel_rfl)
    have hnh := fun W x => run_neq_held_nil (P := Tryd.prog) W 27 80 x (by kernel_rfl)
    have hE := fun W => run_eql_nil_nil (P := Tryd.prog) W 27 (by kernel_rfl)
    have hEh := fun W x => run_eql_held_nil (P := Tryd.prog) W 27 80 x (by kernel_rfl)
    go_wp2_with fail
    refine (encode_law c wb HEB.out.e).mono ?_
    rintro e w1 ⟨v1, u1, rfl, hb1, hor⟩
    have HB1 := Lib.hid hb1
    have HC1 := Lib.hid (HC.out.keep hb1)
    clear hb1 d0 d1 d2 d3 d4 d5 d6 d7
    rcases hor with ⟨hck, rfl, hown⟩ | ⟨hck, rfl, herr⟩
    · have HD1 := Lib.hid (decode_law v1 (encC c) w1 hown.bytes (by have := encC_length hck; omega))
      have h40 := encC_length hck
      have h40z : ¬ (40 : Int) < ((encC c).length : Int) := by omega
      obtain ⟨hks, heq⟩ := decode_encC hck
      have HDE : Hid (cmdA (decodeT (encC c)).1 = cmdA c) := cmdA_eq heq
      have HKS := Lib.hid hks
      obtain ⟨A1, cap1, rfl, _⟩ := hown.bytes
      generalize (encC c).length = m at *
      clear hown hck hks heq h40
      go_wp2_with fail
      refine HD1.out.mono ?_
      rintro e w2 ⟨u2, rfl, he2, hb2⟩
      rw [HKS.out] at he2
      rcases he2.cases with ⟨rfl, _⟩ | ⟨_, _, h⟩
      case inr => exact absurd rfl h
      rw [HDE.out]
      simp only [cmdA]
      have hb3 : Below w2.heap.size w2 (w2.alloc (.cells #[.int .i64 (c 0), .int .i64 (c 1), .int .i64 (c 2), .int .i64 (c 3), .int .i64 (c 4), .int .i64 (c 5), .int .i64 (c 6), .int .i64 (c 7)] 23)) := (Below.refl _ _).alloc (Nat.le_refl _) _
      have HC3 := Lib.hid (cmd_new w2 c)
      have HC13 := Lib.hid ((HC1.out.keep hb2).keep hb3)
      have HB3 := Lib.hid (HB1.out.trans ((hb2.trans (hb3.mono hb2.size)).mono HB1.out.size))
      clear he2 hb2 hb3
      go_upto_region 6 with fail
      generalize w2.alloc (.cells #[.int .i64 (c 0), .int .i64 (c 1), .int .i64 (c 2), .int .i64 (c 3), .int .i64 (c 4), .int .i64 (c 5), .int .i64 (c 6), .int .i64 (c 7)] 23) = w3 at *
      generalize w2.heap.size = g2 at *
      obtain ⟨y0, y1, y2, y3, y4, y5, y6, y7⟩ := HC3.out.eight
      obtain ⟨d0, d1, d2, d3, d4, d5, d6, d7⟩ := HC13.out.eight
      go_wp2_with fail
      refine (HDB.out w3 (HBB.out.trans (HB3.out.mono HBB.out.size))).mono ?_
      rintro e q1 ⟨u9, rfl, he9, hq1⟩
      have hev9 := he9.cases
      rcases hev9 with ⟨rfl, hk9⟩ | ⟨b9, rfl, hk9⟩
      · obtain ⟨hck9, henc9⟩ := HBACK.out hk9
        simp only [cmdA]
        have hq2 : Below q1.heap.size q1 (q1.alloc (.cells #[.int .i64 (d 0), .int .i64 (d 1), .int .i64 (d 2), .int .i64 (d 3), .int .i64 (d 4), .int .i64 (d 5), .int .i64 (d 6), .int .i64 (d 7)] 23)) := (Below.refl _ _).alloc (Nat.le_refl _) _
        have HC9 := Lib.hid (cmd_new q1 d)
        have HQ2 := Lib.hid (HB3.out.trans ((hq1.trans (hq2.mono hq1.size)).mono HB3.out.size))
        clear he9 hq1 hq2 hk9
        go_upto_region 9 with fail
        generalize q1.alloc (.cells #[.int .i64 (d 0), .int .i64 (d 1), .int .i64 (d 2), .int .i64 (d 3), .int .i64 (d 4), .int .i64 (d 5), .int .i64 (d 6), .int .i64 (d 7)] 23) = q2 at *
        generalize q1.heap.size = gq at *
        obtain ⟨t0, t1, t2, t3, t4, t5, t6, t7⟩ := HC9.out.eight
        go_wp2_with fail
        refine (encode_law d q2 (HEB.out.later HQ2.out).e).mono ?_
        rintro e q3 ⟨v9, u8, rfl, hq3, hor9⟩
        rcases hor9 with ⟨_, rfl, hown9⟩ | ⟨h, _⟩
        case inr => exact absurd hck9 h
        rw [henc9] at hown9
        have HQ3 := Lib.hid (HQ2.out.trans (hq3.mono HQ2.out.size))
        have f1 := conv_text (P := Tryd.prog) (dst := 9) hown9.bytes Tryd.underlying34 Tryd.underlying5 Tryd.underlying9
        have f2 := conv_text (P := Tryd.prog) (dst := 9) (HV.out.keep (HBB.out.trans (HQ3.out.mono HBB.out.size))) Tryd.underlying34 Tryd.underlying5 Tryd.underlying9
        generalize textOf bs = tx at *
        clear hown9 hq3 t0 t1 t2 t3 t4 t5 t6 t7 hck9 henc9
        go_wp2_with fail
        refine (awake_any q3 (HEB.out.later HQ3.out)).mono ?_
        rintro e q4 ⟨rfl, hq4⟩
        have HQ4 := Lib.hid (HQ3.out.trans (hq4.mono HQ3.out.size))
        clear hq4
        go_wp2
        go_ret
        exact ⟨rfl, HBB.out.trans (HQ4.out.mono HBB.out.size)⟩
      · obtain ⟨hz9, _⟩ := HBAD.out hk9
        have hz9' : d = zeroC := hz9
        subst hz9'
        simp only [cmdA, zeroC]
        have hq2 : Below q1.heap.size q1 (q1.alloc (.cells #[.int .i64 0, .int .i64 0, .int .i64 0, .int .i64 0, .int .i64 0, .int .i64 0, .int .i64 0, .int .i64 0] 23)) := (Below.refl _ _).alloc (Nat.le_refl _) _
        have HC9 := Lib.hid (show CmdAt (q1.alloc (.cells #[.int .i64 0, .int .i64 0, .int .i64 0, .int .i64 0, .int .i64 0, .int .i64 0, .int .i64 0, .int .i64 0] 23)) q1.heap.size zeroC from World.alloc_heap_new _ _)
        have HQ2 := Lib.hid (HB3.out.trans ((hq1.trans (hq2.mono hq1.size)).mono HB3.out.size))
        clear he9 hq1 hq2 hk9
        go_upto_region 9 with fail
        generalize q1.alloc (.cells #[.int .i64 0, .int .i64 0, .int .i64 0, .int .i64 0, .int .i64 0, .int .i64 0, .int .i64 0, .int .i64 0] 23) = q2 at *
        generalize q1.heap.size = gq at *
        obtain ⟨t0, t1, t2, t3, t4, t5, t6, t7⟩ := HC9.out.eight
        simp only [zeroC] at t0 t1 t2 t3 t4 t5 t6 t7
        go_wp2_with fail
        refine (awake_any q2 (HEB.out.later HQ2.out)).mono ?_
        rintro e q4 ⟨rfl, hq4⟩
        have HQ4 := Lib.hid (HQ2.out.trans (hq4.mono HQ2.out.size))
        clear hq4
        go_wp2
        go_ret
        exact ⟨rfl, HBB.out.trans (HQ4.out.mono HBB.out.size)⟩
    · rcases herr.cases with ⟨_, h⟩ | ⟨b1, rfl, _⟩
      · exact absurd h hck
      clear hck herr
      go_wp2_with fail
      refine (HDB.out w1 (HBB.out.trans (HB1.out.mono HBB.out.size))).mono ?_
      rintro e q1 ⟨u9, rfl, he9, hq1⟩
      have hev9 := he9.cases
      rcases hev9 with ⟨rfl, hk9⟩ | ⟨b9, rfl, hk9⟩
      · obtain ⟨hck9, henc9⟩ := HBACK.out hk9
        simp only [cmdA]
        have hq2 : Below q1.heap.size q1 (q1.alloc (.cells #[.int .i64 (d 0), .int .i64 (d 1), .int .i64 (d 2), .int .i64 (d 3), .int .i64 (d 4), .int .i64 (d 5), .int .i64 (d 6), .int .i64 (d 7)] 23)) := (Below.refl _ _).alloc (Nat.le_refl _) _
        have HC9 := Lib.hid (cmd_new q1 d)
        have HQ2 := Lib.hid (HB1.out.trans ((hq1.trans (hq2.mono hq1.size)).mono HB1.out.size))
        clear he9 hq1 hq2 hk9
        go_upto_region 9 with fail
        generalize q1.alloc (.cells #[.int .i64 (d 0), .int .i64 (d 1), .int .i64 (d 2), .int .i64 (d 3), .int .i64 (d 4), .int .i64 (d 5), .int .i64 (d 6), .int .i64 (d 7)] 23) = q2 at *
        generalize q1.heap.size = gq at *
        obtain ⟨t0, t1, t2, t3, t4, t5, t6, t7⟩ := HC9.out.eight
        go_wp2_with fail
        refine (encode_law d q2 (HEB.out.later HQ2.out).e).mono ?_
        rintro e q3 ⟨v9, u8, rfl, hq3, hor9⟩
        rcases hor9 with ⟨_, rfl, hown9⟩ | ⟨h, _⟩
        case inr => exact absurd hck9 h
        rw [henc9] at hown9
        have HQ3 := Lib.hid (HQ2.out.trans (hq3.mono HQ2.out.size))
        have f1 := conv_text (P := Tryd.prog) (dst := 9) hown9.bytes Tryd.underlying34 Tryd.underlying5 Tryd.underlying9
        have f2 := conv_text (P := Tryd.prog) (dst := 9) (HV.out.keep (HBB.out.trans (HQ3.out.mono HBB.out.size))) Tryd.underlying34 Tryd.underlying5 Tryd.underlying9
        generalize textOf bs = tx at *
        clear hown9 hq3 t0 t1 t2 t3 t4 t5 t6 t7 hck9 henc9
        go_wp2_with fail
        refine (awake_any q3 (HEB.out.later HQ3.out)).mono ?_
        rintro e q4 ⟨rfl, hq4⟩
        have HQ4 := Lib.hid (HQ3.out.trans (hq4.mono HQ3.out.size))
        clear hq4
        go_wp2
        go_ret
        exact ⟨rfl, HBB.out.trans (HQ4.out.mono HBB.out.size)⟩
      · obtain ⟨hz9, _⟩ := HBAD.out hk9
        have hz9' : d = zeroC := hz9
        subst hz9'
        simp only [cmdA, zeroC]
        have hq2 : Below q1.heap.size q1 (q1.alloc (.cells #[.int .i64 0, .int .i64 0, .int .i64 0, .int .i64 0, .int .i64 0, .int .i64 0, .int .i64 0, .int .i64 0] 23)) := (Below.refl _ _).alloc (Nat.le_refl _) _
        have HC9 := Lib.hid (show CmdAt (q1.alloc (.cells #[.int .i64 0, .int .i64 0, .int .i64 0, .int .i64 0, .int .i64 0, .int .i64 0, .int .i64 0, .int .i64 0] 23)) q1.heap.size zeroC from World.alloc_heap_new _ _)
        have HQ2 := Lib.hid (HB1.out.trans ((hq1.trans (hq2.mono hq1.size)).mono HB1.out.size))
        clear he9 hq1 hq2 hk9
        go_upto_region 9 with fail
        generalize q1.alloc (.cells #[.int .i64 0, .int .i64 0, .int .i64 0, .int .i64 0, .int .i64 0, .int .i64 0, .int .i64 0, .int .i64 0] 23) = q2 at *
        generalize q1.heap.size = gq at *
        obtain ⟨t0, t1, t2, t3, t4, t5, t6, t7⟩ := HC9.out.eight
        simp only [zeroC] at t0 t1 t2 t3 t4 t5 t6 t7
        go_wp2_with fail
        refine (awake_any q2 (HEB.out.later HQ2.out)).mono ?_
        rintro e q4 ⟨rfl, hq4⟩
        have HQ4 := Lib.hid (HQ2.out.trans (hq4.mono HQ2.out.size))
        clear hq4
        go_wp2
        go_ret
        exact ⟨rfl, HBB.out.trans (HQ4.out.mono HBB.out.size)⟩
end Go.Proofs.YtnddojngbolbfaaDoor
