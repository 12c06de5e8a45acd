/-
  CmdReads walked.
  Conditions: start-up's two variables are as laid; no more than 2^47 bytes (the law lets more than 500 go).
-/
import Derived.Test.YtnddojngbolbfaaDoorAwake11
import Derived.Test.YtnddojngbolbfaaDoorLinksLaw
import Derived.Test.YtnddojngbolbfaaDoorCmdBackMath
import Derived.Test.YtnddojngbolbfaaDoorRefDecode
set_option linter.unusedVariables false
namespace Go.Proofs.YtnddojngbolbfaaDoor
open Go.RowKit Go.Extern.Stop Go.Stop Go.Extern

/-- fault.Code of an error with links. -/
theorem codeE_any (b : Nat) (k : LKey) (ks : List LKey) (lo : Nat) (w : World) (hg : EType w) (h : ErrAt lo w (.iface 80 (.pointer (some ⟨b, 0, none⟩))) (k :: ks)) :
    Calls Tryd.prog 18 #[.iface 80 (.pointer (some ⟨b, 0, none⟩))] w (RetB (.int .i64 k.1) w) := by
  obtain ⟨is, h1, h2, h3⟩ := h
  refine (code_any _ is w h1 hg).mono fun e w' h => ⟨?_, h.2⟩
  rw [h.1, codeOf_key (lo := lo) (W := w) (b := b) h3]

/-- Two commands in memory, made one behind the other. -/
theorem cmd_new (W : World) (c : Cmd8) : CmdAt (W.alloc (.cells #[.int .i64 (c 0), .int .i64 (c 1), .int .i64 (c 2), .int .i64 (c 3), .int .i64 (c 4), .int .i64 (c 5), .int .i64 (c 6), .int .i64 (c 7)] 23)) W.heap.size c := World.alloc_heap_new _ _

set_option maxRecDepth 100000 in
set_option maxHeartbeats 8000000 in
theorem reads_law (v : Value) (bs : List Nat) (w : World) (he : Env w) (hv : BytesAt w v bs) :
    Calls Tryd.prog 5 #[v] w (Ans true w) := by
  have HE := Lib.hid he
  have HV := Lib.hid hv
  obtain ⟨A, c, rfl, _⟩ := hv
  clear he
  by_cases hl : 500 < bs.length
  · have hlz : (500 : Int) < (bs.length : Int) := by omega
    generalize bs.length = n at *
    go_enter Tryd.func5, Tryd.ntmps5
    go_wp2_with fail
    refine (awake_any w HE.out).mono ?_
    rintro e w1 ⟨rfl, hb1⟩
    go_wp2
    go_ret
    exact ⟨rfl, hb1⟩
  · have hlz : ¬ (500 : Int) < (bs.length : Int) := by omega
    have HD := Lib.hid (decode_law _ bs w HV.out (by omega))
    have HRD := Lib.hid (fun W (h : Below w.heap.size w W) => refDecode_any _ bs W (HV.out.keep h) (by omega))
    have HLEN := Lib.hid (decodeT_len bs)
    have HBAD := Lib.hid (fun h => decodeT_bad (bs := bs) h)
    unfold DecP at HD
    unfold RefDecP at HRD
    generalize hT : decodeT bs = T at *
    clear hT
    obtain ⟨d, ks⟩ := T
    generalize bs.length = n at *
    clear hl
    go_enter Tryd.func5, Tryd.ntmps5
    go_wp2_with fail
    refine HD.out.mono ?_
    rintro e w1 ⟨u1, rfl, he1, hb1⟩
    simp only [cmdA]
    have hb2 : Below w1.heap.size w1 (w1.alloc (.cells #[.int .i64 (d 0), .int .i64 (d 1), .int .i64 (d 2), .int .i64 (d 3), .int .i64 (d 4), .int .i64 (d 5), .int .i64 (d 6), .int .i64 (d 7)] 23)) := (Below.refl _ _).alloc (Nat.le_refl _) _
    have HC2 := Lib.hid (cmd_new w1 d)
    have HB2 := Lib.hid (hb1.trans (hb2.mono hb1.size))
    have HE2 := Lib.hid (he1.keep hb2)
    clear he1 hb1 hb2
    go_upto_region 4 with fail
    generalize w1.alloc (.cells #[.int .i64 (d 0), .int .i64 (d 1), .int .i64 (d 2), .int .i64 (d 3), .int .i64 (d 4), .int .i64 (d 5), .int .i64 (d 6), .int .i64 (d 7)] 23) = w2 at *
    generalize w1.heap.size = g1 at *
    go_wp2_with fail
    refine (HRD.out w2 HB2.out).mono ?_
    rintro e w3 ⟨l3, rfl, hk3, hb3⟩
    simp only [cmdA]
    have hb4 : Below w3.heap.size w3 (w3.alloc (.cells #[.int .i64 (d 0), .int .i64 (d 1), .int .i64 (d 2), .int .i64 (d 3), .int .i64 (d 4), .int .i64 (d 5), .int .i64 (d 6), .int .i64 (d 7)] 23)) := (Below.refl _ _).alloc (Nat.le_refl _) _
    have HC4 := Lib.hid (cmd_new w3 d)
    have HC24 := Lib.hid ((HC2.out.keep hb3).keep hb4)
    have HB4 := Lib.hid (HB2.out.trans ((hb3.trans (hb4.mono hb3.size)).mono HB2.out.size))
    have HE4 := Lib.hid ((HE2.out.keep hb3).keep hb4)
    have HK4 := Lib.hid (hk3.keep hb4)
    have hg1 : g1 < w3.heap.size := (HC2.out.keep hb3).lt
    clear hk3 hb3 hb4
    go_upto_region 5 with fail
    generalize w3.alloc (.cells #[.int .i64 (d 0), .int .i64 (d 1), .int .i64 (d 2), .int .i64 (d 3), .int .i64 (d 4), .int .i64 (d 5), .int .i64 (d 6), .int .i64 (d 7)] 23) = w4 at *
    generalize w3.heap.size = g3 at *
    obtain ⟨d0, d1, d2, d3, d4, d5, d6, d7⟩ := HC24.out.eight
    obtain ⟨y0, y1, y2, y3, y4, y5, y6, y7⟩ := HC4.out.eight
    have hev := HE4.out.cases
    go_wp2_with fail
    refine (linksLaw_any u1 l3 _ _ w4 HE4.out HK4.out (HE.out.later HB4.out).e HLEN.out).mono ?_
    rintro e w5 ⟨rfl, hb5⟩
    have HB5 := Lib.hid (HB4.out.trans (hb5.mono HB4.out.size))
    have HE5 := Lib.hid (HE4.out.keep hb5)
    clear hb5 d0 d1 d2 d3 d4 d5 d6 d7 y0 y1 y2 y3 y4 y5 y6 y7
    rcases hev with ⟨rfl, hk⟩ | ⟨b', rfl, hk⟩
    · have hE := fun W => run_eql_nil_nil (P := Tryd.prog) W 27 (by kernel_rfl)
      clear hk
      go_wp2_with fail
      refine (awake_any w5 (HE.out.later HB5.out)).mono ?_
      rintro e w6 ⟨rfl, hb6⟩
      have HB6 := Lib.hid (HB5.out.trans (hb6.mono HB5.out.size))
      clear hb6
      go_wp2
      go_ret
      exact ⟨rfl, HB6.out⟩
    · have hE := fun W x => run_eql_held_nil (P := Tryd.prog) W 27 80 x (by kernel_rfl)
      obtain ⟨_, k, ks', hks⟩ := HBAD.out hk
      have hks2 : ks = (3, k) :: ks' := hks
      subst hks2
      have HCO := Lib.hid (codeE_any b' _ _ _ w5 (HE.out.later HB5.out).e HE5.out)
      clear hk
      go_wp2_with fail
      refine HCO.out.mono ?_
      rintro e w6 ⟨rfl, hb6⟩
      have HB6 := Lib.hid (HB5.out.trans (hb6.mono HB5.out.size))
      clear hb6
      go_wp2_with fail
      refine (awake_any w6 (HE.out.later HB6.out)).mono ?_
      rintro e w7 ⟨rfl, hb7⟩
      have HB7 := Lib.hid (HB6.out.trans (hb7.mono HB6.out.size))
      clear hb7
      go_wp2
      go_ret
      exact ⟨rfl, HB7.out⟩
end Go.Proofs.YtnddojngbolbfaaDoor
