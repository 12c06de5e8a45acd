/-
  The law TopRuns.
  Conditions: the set is a word; the table of math/bits is as start-up lays it.
-/
import Derived.Test.YtademjmnoncieaaDoorRunSpans
import Derived.Test.YtademjmnoncieaaDoorRuns
import Derived.Test.YtademjmnoncieaaDoorTicks
import Derived.Test.YtademjmnoncieaaDoorCount
import Derived.Test.YtademjmnoncieaaDoorGaps
import Derived.Test.YtademjmnoncieaaDoorBegins
set_option linter.unusedVariables false
namespace Go.Proofs.YtademjmnoncieaaDoor
open Go.RowKit

def SameRel (n : Nat) (w : World) (g : Nat) (s5 : Value) (wr : World) : Prop := ∃ k : Nat, k ≤ n ∧ g = n - k ∧ s5 = .int .i64 k ∧ Below w.heap.size w wr

set_option maxRecDepth 100000 in
set_option maxHeartbeats 4000000 in
theorem sameRuns_any (x y : Value) (ps : List (Nat × Nat)) (w : World) (hx : SpansAt w x (ps.map toS)) (hy : PairsAt w y ps) : Calls Tryd.prog 7 #[x, y] w (RetB (.bool true) w) := by
  obtain ⟨A, c, rfl, hc1, hlen, hc2, hat⟩ := hx
  obtain ⟨B, d, rfl, hlen2, hbt⟩ := hy
  have HAT := Lib.hid hat
  have HBT := Lib.hid hbt
  rw [List.length_map] at hc1 hlen ⊢
  obtain ⟨n, hn⟩ : ∃ n, ps.length = n := ⟨_, rfl⟩
  have HN := Lib.hid hn
  rw [hn] at hc1 hlen hlen2 ⊢
  clear hat hbt hn
  go_enter Tryd.func7, Tryd.ntmps7
  go_wp2_with fail
  go_loopg [5] n (fun g s5 wr => SameRel n w g s5 wr)
  case atStart => exact ⟨0, Nat.zero_le _, rfl, rfl, Below.refl _ _⟩
  case round =>
    obtain ⟨k, hk, hg, rfl, hbw⟩ := hrel
    have HG := Lib.hid hg
    have HB := Lib.hid hbw
    clear hg hbw
    by_cases hlt : k < n
    · have z1 : (k : Int) < (n : Int) := by omega
      obtain ⟨b, off, hA, hbl, hcell⟩ := HAT.out (by rw [List.length_map, HN.out]; omega)
      subst hA
      obtain ⟨b', off', hB', hbl', hcell'⟩ := HBT.out (by rw [HN.out]; omega)
      subst hB'
      obtain ⟨p, hp⟩ : ∃ p, ps[k]? = some p := ⟨ps[k]'(by rw [HN.out]; exact hlt), List.getElem?_eq_getElem _⟩
      obtain ⟨e1, e2⟩ := (hcell k (toS p) (by rw [List.getElem?_map, hp]; rfl)).keep HB.out hbl
      obtain ⟨f1, f2⟩ := hcell' k p hp
      have g1 := (HB.out.cell (p := ⟨b', off' + k * 2, none⟩) hbl').trans f1
      have g2 := (HB.out.cell (p := ⟨b', off' + k * 2 + 1, none⟩) hbl').trans f2
      obtain ⟨p1, p2⟩ := p
      simp only [toS] at e1 e2 g1 g2
      clear f1 f2 hcell hcell' hp
      have q1 : ((p1 : Int) != (p1 : Int)) = false := by simp
      have q2 : ((p2 : Int) != (p2 : Int)) = false := by simp
      go_wp2_with fail
      go_quiet (fail)
      go_wp2_with fail
      go_roundg (n - (k + 1))
      case measure => have := HG.out; omega
      case rel => exact ⟨k + 1, by omega, rfl, by go_num, below_drewN5 HB.out _⟩
    · have hk2 : k = n := by omega
      subst hk2
      go_wp2_with fail
      go_ret
      exact ⟨rfl, HB.out⟩

def UnitRel (ts : List Int) (B n : Nat) (W0 : World) (g : Nat) (s3 s11 : Value) (wr : World) : Prop :=
  ∃ k : Nat, k ≤ n ∧ g = n - k ∧ s11 = .int .i64 k ∧ Below B W0 wr ∧ B ≤ wr.heap.size ∧ wr.ownsRow B 27 2 s3 k (spansCells ((ts.take k).map fun t => (t, t + 1)))
theorem unit_ticks (m : Nat) : (ticksI m 64).map (fun t => (t, t + 1)) = unitS m 64 := by
  unfold ticksI unitS
  rw [List.map_map]
  rfl
theorem ticks_bound {m k : Nat} {x : Int} (h : (ticksI m 64)[k]? = some x) : 0 ≤ x ∧ x < 64 := by
  unfold ticksI at h
  rw [List.getElem?_map] at h
  obtain ⟨t, ht, rfl⟩ := Option.map_eq_some_iff.1 h
  have := (mem_ticks.1 (List.mem_of_getElem? ht)).1
  omega

set_option maxRecDepth 100000 in
set_option maxHeartbeats 16000000 in
theorem runs_law (m : Nat) (W : World) (hm : m < 18446744073709551616) (hT : Tab W) : Calls Tryd.prog 3 #[.int .u64 m] W (RetB (.bool true) W) := by
  obtain ⟨i0, hi, hz0, hz1, hz2⟩ := info_parts Tryd.infoSpan
  have HT := Lib.hid (ticks_any m W hm (fun w => count_any m w hm))
  have HTAB := Lib.hid hT
  have HM := Lib.hid hm
  have HXOR := Lib.hid (xor_word m hm)
  clear hm hT
  go_enter Tryd.func3, Tryd.ntmps3
  go_wp2_with fail
  refine HT.out.mono ?_
  rintro e w1 ⟨v, rfl, hat, hb1⟩
  obtain ⟨A, c, rfl, hlen, hat⟩ := hat
  have HAT := Lib.hid hat
  have HB1 := Lib.hid hb1
  have hl64 : (ticksI m 64).length ≤ 64 := by rw [ticksI_length]; exact cntT_le m 64
  have HBD := Lib.hid (fun k x (h : (ticksI m 64)[k]? = some x) => ticks_bound h)
  have HUN := Lib.hid (unit_ticks m)
  generalize hts : ticksI m 64 = ts at *
  obtain ⟨n, hn⟩ : ∃ n, ts.length = n := ⟨_, rfl⟩
  have HN := Lib.hid hn
  rw [hn] at hlen hl64 ⊢
  clear hat hb1 hts hn HT
  obtain ⟨B, hB⟩ : ∃ B, W.heap.size = B := ⟨_, rfl⟩
  have HBE := Lib.hid hB
  have HB1 := Lib.hid (show Below B W w1 ∧ B ≤ w1.heap.size by have := HB1.out; rw [← hB]; exact ⟨this, this.size⟩)
  clear hB
  go_wp2_with fail
  go_loopg [3, 11] n (fun g s3 s11 wr => UnitRel ts w1.heap.size n w1 g s3 s11 wr)
  case atStart => exact ⟨0, Nat.zero_le _, rfl, rfl, Below.refl _ _, Nat.le_refl _, World.ownsRow_nil _ _ _ _⟩
  case round =>
    obtain ⟨k, hk, hg, rfl, hbw, hsz, hown⟩ := hrel
    have HG := Lib.hid hg
    have HB := Lib.hid hbw
    have HO := Lib.hid hown
    clear hg hbw hown
    obtain ⟨A0, c0, rfl⟩ := own_form HO.out
    by_cases hlt : k < n
    · have z1 : (k : Int) < (n : Int) := by omega
      obtain ⟨b, off, hA, hbl, hcell⟩ := HAT.out (by rw [HN.out]; omega)
      subst hA
      obtain ⟨x, hx⟩ := ex_at (xs := ts) (k := k) (by rw [HN.out]; exact hlt)
      have hc := (HB.out.cell (p := ⟨b, off + k, none⟩) hbl).trans (hcell k x hx)
      obtain ⟨x0, x1⟩ := HBD.out k x hx
      have HTK := Lib.hid (show ts.take (k + 1) = ts.take k ++ [x] by rw [List.take_add_one, hx]; rfl)
      clear hcell hx
      have ex1 : IntKind.i64.wrap (x + 1) = x + 1 := IntWalk.i64_in _ (by omega)
      go_wp2_with (at_builtin; refine wpList_append_own _ rfl _ _ 23 rfl w1.heap.size 27 i0 (.agg #[.int .i64 0, .int .i64 0]) 2 16 Tryd.underlying23 hi hz0 hz1 hz2 rfl (by decide) _ _ _ rfl (HO.out.alloc _) ⟨wr.heap.size, 0, none⟩ 1 1 [.int .i64 x, .int .i64 (x + 1)] rfl rfl ?c1 ?c2 ?c3 ?c4 ?c5 ?_)
      case c1 => exact news_two _ _ rfl _ _ _
      case c2 => intro u hu; simp at hu; rcases hu with rfl | rfl <;> rfl
      case c3 => unfold maxLen; omega
      case c4 => omega
      case c5 => simp; omega
      intro v2 w2 hown2 hgrow _
      have HB2 := Lib.hid ((HB.out.alloc hsz _).trans (below_grown5 hgrow (by simp; omega) (own_base5 HO.out)))
      have HS2 := Lib.hid (show w1.heap.size ≤ w2.heap.size by have := hgrow.size; simp at this; omega)
      have HO2 := Lib.hid hown2
      clear hown2 hgrow
      go_wp2_with fail
      go_roundg (n - (k + 1))
      case measure => have := HG.out; omega
      case rel =>
        refine ⟨k + 1, by omega, rfl, by go_num, HB2.out, HS2.out, ?_⟩
        rw [HTK.out, List.map_append, spansCells_append, List.map_take]
        exact HO2.out
    · have hk2 : k = n := by omega
      subst hk2
      have hsp : SpansAt wr (.slice A0 k c0) (unitS m 64) := by
        have ho := HO.out
        rw [List.take_of_length_le (by rw [HN.out]; exact Nat.le_refl _), HUN.out] at ho
        have hl : (unitS m 64).length = k := by rw [← HUN.out, List.length_map, HN.out]
        rw [← hl] at ho ⊢
        exact spans_of_own ho (by rw [hl]; omega)
      have HSP := Lib.hid hsp
      have hbr : Below B W wr := HB1.out.1.trans (HB.out.mono HB1.out.2)
      have HBR := Lib.hid hbr
      have HSR := Lib.hid (show B ≤ wr.heap.size from Nat.le_trans HB1.out.2 HB.out.size)
      have t1 := norm_any _ _ wr hsp
      rw [norm_units HM.out] at t1
      have T1 := Lib.hid t1
      clear t1 hsp hbr HO HB HAT HBD HN HUN HG
      go_wp2_with fail
      refine T1.out.mono ?_
      rintro e w2 ⟨v2, rfl, hat2, hb2⟩
      have S2 := Lib.hid hat2
      have B2 := Lib.hid (HBR.out.trans (hb2.mono HSR.out))
      have Z2 := Lib.hid (Nat.le_trans HSR.out hb2.size)
      have t2 := gaps_any _ _ 0 64 w2 (HSP.out.keep hb2) (by rw [unitS_length]; have := cntT_le m 64; omega)
      rw [gaps_units HM.out] at t2
      have T2 := Lib.hid t2
      clear t2 hat2 hb2 T1 HSP HBR HSR
      go_wp2_with fail
      refine T2.out.mono ?_
      rintro e w3 ⟨v3, rfl, hat3, hb3⟩
      have S2 := Lib.hid (S2.out.keep hb3)
      have S3 := Lib.hid hat3
      have B3 := Lib.hid (B2.out.trans (hb3.mono Z2.out))
      have Z3 := Lib.hid (Nat.le_trans Z2.out hb3.size)
      have HT3 := Lib.hid (HTAB.out.later (by rw [HBE.out]; exact B3.out))
      have T3 := Lib.hid (runs_any m w3 HM.out HT3.out)
      clear hat3 hb3 T2 B2 Z2
      go_wp2_with fail
      refine T3.out.mono ?_
      rintro e w4 ⟨v4, rfl, hat4, hb4⟩
      have S2 := Lib.hid (S2.out.keep hb4)
      have S3 := Lib.hid (S3.out.keep hb4)
      have B4 := Lib.hid (B3.out.trans (hb4.mono Z3.out))
      have Z4 := Lib.hid (Nat.le_trans Z3.out hb4.size)
      have T4 := Lib.hid (sameRuns_any v2 v4 (runsT m 64) w4 S2.out hat4)
      clear hat4 hb4 T3 B3 Z3
      go_wp2_with fail
      refine T4.out.mono ?_
      rintro e w5 ⟨rfl, hb5⟩
      have S2 := Lib.hid (S2.out.keep hb5)
      have S3 := Lib.hid (S3.out.keep hb5)
      have B5 := Lib.hid (B4.out.trans (hb5.mono Z4.out))
      have Z5 := Lib.hid (Nat.le_trans Z4.out hb5.size)
      have HT5 := Lib.hid (HTAB.out.later (by rw [HBE.out]; exact B5.out))
      have T5 := Lib.hid (runs_any (notN m) w5 (notN_lt HM.out) HT5.out)
      clear hb5 T4 B4 Z4
      have hxor := HXOR.out
      go_wp2_with fail
      clear hxor
      refine T5.out.mono ?_
      rintro e w6 ⟨v6, rfl, hat6, hb6⟩
      have S2 := Lib.hid (S2.out.keep hb6)
      have S3 := Lib.hid (S3.out.keep hb6)
      have B6 := Lib.hid (B5.out.trans (hb6.mono Z5.out))
      have Z6 := Lib.hid (Nat.le_trans Z5.out hb6.size)
      have T6 := Lib.hid (sameRuns_any v3 v6 (runsT (notN m) 64) w6 S3.out hat6)
      clear hat6 hb6 T5 B5 Z5
      go_wp2_with fail
      refine T6.out.mono ?_
      rintro e w7 ⟨rfl, hb7⟩
      have S2 := Lib.hid (S2.out.keep hb7)
      have S3 := Lib.hid (S3.out.keep hb7)
      have B7 := Lib.hid (B6.out.trans (hb7.mono Z6.out))
      have Z7 := Lib.hid (Nat.le_trans Z6.out hb7.size)
      have T7 := Lib.hid (total_any v2 _ w7 S2.out)
      clear hb7 T6 B6 Z6
      go_wp2_with fail
      refine T7.out.mono ?_
      rintro e w8 ⟨rfl, hb8⟩
      have S3 := Lib.hid (S3.out.keep hb8)
      have B8 := Lib.hid (B7.out.trans (hb8.mono Z7.out))
      have Z8 := Lib.hid (Nat.le_trans Z7.out hb8.size)
      have T8 := Lib.hid (total_any v3 _ w8 S3.out)
      clear hb8 T7 B7 Z7
      have htot := total_runs HM.out
      go_wp2_with fail
      refine T8.out.mono ?_
      rintro e w9 ⟨rfl, hb9⟩
      have B9 := Lib.hid (B8.out.trans (hb9.mono Z8.out))
      have Z9 := Lib.hid (Nat.le_trans Z8.out hb9.size)
      have T9 := Lib.hid (begins_any w9)
      clear hb9 T8 B8 Z8
      go_wp2_with fail
      refine T9.out.mono ?_
      rintro e w10 ⟨rfl, hb10⟩
      have B10 := Lib.hid (B9.out.trans (hb10.mono Z9.out))
      clear hb10 htot
      go_wp2_with fail
      go_ret
      exact ⟨rfl, by rw [HBE.out]; exact B10.out⟩
end Go.Proofs.YtademjmnoncieaaDoor
