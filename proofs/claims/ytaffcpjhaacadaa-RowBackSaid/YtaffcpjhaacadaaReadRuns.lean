/-
  The program's readRuns.
  Conditions: no more than 16 numbers a row, no more than 4096 rows; what was read ahead of it fits the bytes.
-/
import Derived.Test.YtaffcpjhaacadaaReadRow
import Derived.Test.YtaffcpjhaacadaaClone
import Derived.Test.YtaffcpjhaacadaaEqual
set_option linter.unusedVariables false
namespace Go.Proofs.Ytaffcpjhaacadaa
open Go.RowKit

/-- What readRuns answers. -/
def RunsP (g m c : Nat) (bs : List Nat) (w : World) (x : Ending) (w' : World) : Prop :=
  ∃ (v : Value) (ok : Bool) (ls : List (Value × List Int)) (b : List Nat) (e : Int), x = .returned (.tuple #[v, .bool ok]) ∧ Apart (fun k => k = g) w w' ∧ ReaderAt w' g b e ∧ RowsOwn w' w.heap.size v ls ∧
    (ok = true → ls.length = c ∧ Fits m c bs (rowsOf ls) b e ∧ Goes m c bs (rowsOf ls) b e) ∧ (ok = false → NoDec bs)

def RunsRel (g m c base : Nat) (bs : List Nat) (w : World) (gg : Nat) (s6 : Value) (wr : World) : Prop :=
  ∃ (ls : List (Value × List Int)) (b : List Nat) (e : Int), ls.length ≤ c ∧ gg = c - ls.length ∧ RowsOwn wr base s6 ls ∧ Apart (fun k => k = g) w wr ∧ ReaderAt wr g b e ∧ Fits m c bs (rowsOf ls) b e ∧ Goes m c bs (rowsOf ls) b e

set_option maxRecDepth 100000 in
set_option maxHeartbeats 4000000 in
theorem readRuns_any (g m c : Nat) (bs b : List Nat) (e : Int) (w : World) (hr : ReaderAt w g b e) (hm : m ≤ 16) (hc : c ≤ 4096) (hf : Fits m c bs [] b e) (hgo : Goes m c bs [] b e) :
    Calls Try.prog 28 #[.pointer (some ⟨g, 0, none⟩), .int .i64 m, .int .i64 c] w (RunsP g m c bs w) := by
  have HR := Lib.hid hr
  have HF := Lib.hid hf
  have HGO := Lib.hid hgo
  have HGL := Lib.hid hr.lt
  clear hr hf hgo
  go_enter Try.func28, Try.ntmps28
  go_wp2_with fail
  go_loopg [6] c (fun gg s6 wr => RunsRel g m c w.heap.size bs w gg s6 wr)
  case atStart => exact ⟨[], b, e, Nat.zero_le _, rfl, RowsOwn.nil _ _, Apart.refl _ _, HR.out, HF.out, HGO.out⟩
  case round =>
    obtain ⟨ls, bk, ek, hlc, hgg, hown, ha, hrd, hfk, hgk⟩ := hrel
    have HG := Lib.hid hgg
    have HA := Lib.hid ha
    have HRD := Lib.hid hrd
    have HFK := Lib.hid hfk
    have HGK := Lib.hid hgk
    have HOW := Lib.hid hown
    have HSZ := Lib.hid ha.size
    obtain ⟨A, cap, rfl⟩ := hown.form
    have hrl := rowsOf_length ls
    generalize hn : ls.length = n at *
    have HN := Lib.hid hn
    clear hgg ha hrd hfk hgk hown hn
    by_cases hlt : n < c
    · have hltz : (n : Int) < (c : Int) := by omega
      obtain ⟨D, hD⟩ : ∃ D, D = c - n := ⟨_, rfl⟩
      have hDz : (c : Int) - (n : Int) = (D : Int) := by omega
      have hDw : IntKind.u64.wrap (D : Int) = (D : Int) := by rw [IntKind.wrap_u64]; omega
      have HZ := Lib.hid (fun h0 => fits_zero HFK.out (by rw [hrl]; exact hlt) h0)
      have HAG := Lib.hid (fun h0 => fits_again HFK.out (by rw [hrl]; exact hlt) h0)
      have HST := Lib.hid (fits_step HFK.out (by rw [hrl]; exact hlt))
      have HGS := Lib.hid (fun h0 h1 => goes_step HGK.out D h0 h1)
      rw [hrl, ← hD] at HZ HAG HST
      have hDc : D ≤ c := by omega
      have HDN := Lib.hid hD
      have hTl := numT_le bk ek D
      obtain ⟨N, b1, e1, hT⟩ : ∃ n b e, numT bk ek D = (n, b, e) := ⟨_, _, _, rfl⟩
      have HNUM := Lib.hid (read_any g bk ek D wr (by omega) HRD.out)
      have hRT := Lib.hid (show rowT m D bk ek = (rdL 200 b1 e1 m).1.map fun n : Nat => (n : Int) by unfold rowT; rw [hT])
      rw [hT] at HZ HST HGS HNUM hTl
      have hND : N ≤ D := hTl
      have hNw : IntKind.i64.wrap (N : Int) = (N : Int) := by rw [IntWalk.i64_in _ (by omega)]
      have HT := Lib.hid hT
      clear hT hD hTl
      go_wp2_with fail
      refine HNUM.out.mono ?_
      rintro x w2 ⟨rfl, ha2, hr2⟩
      have HA2 := Lib.hid ha2
      have HOW2 := Lib.hid (HOW.out.apart ha2 (fun k hk e => by have := HGL.out; omega))
      have HSZ2 := Lib.hid (Nat.le_trans HSZ.out ha2.size)
      have HROW := Lib.hid (readRow_any g m b1 e1 w2 hr2 hm)
      have HLT2 := Lib.hid (fun k hk => (HOW2.out.lt k hk).2)
      clear ha2 hr2
      go_wp2_with fail
      refine HROW.out.mono ?_
      rintro x w3 ⟨rfl, hrow, ha3, hr3⟩
      rw [← hRT.out] at hrow
      have hrowl := rowT_length m D bk ek
      generalize rowT m D bk ek = row at *
      obtain ⟨rb, hrb⟩ : ∃ rb, rb = w2.heap.size := ⟨_, rfl⟩
      have HRB := Lib.hid hrb
      rw [← hrb] at hrow HLT2
      have HROWB := Lib.hid hrow
      have HA3 := Lib.hid ((HA.out.trans HA2.out (fun _ _ h => h)).trans ha3 (fun _ _ h => h))
      have HR3 := Lib.hid hr3
      have HOW3 := Lib.hid (HOW2.out.apart ha3 (fun k hk e => by have := HGL.out; omega))
      have HRI := Lib.hid (show IntsAt w3 (.slice (some ⟨rb, 0, none⟩) m m) row by
        have h := hrow.ints (by rw [hrowl]; omega) m
        rwa [hrowl] at h)
      have HROWL := Lib.hid hrowl
      have HRBW := Lib.hid (show w.heap.size ≤ rb by rw [hrb]; exact HSZ2.out)
      obtain ⟨AG, hAG⟩ : ∃ AG : Bool, AG = decide (lastO none (rowsOf ls) = some row) := ⟨_, rfl⟩
      have HAGD := Lib.hid hAG
      clear hrow ha3 hr3 hrowl hAG
      rw [← hrb]
      clear hrb
      go_upto_region 4 with fail
      go_cut [10] from 26 to 38 (fun s10 wx => s10 = .bool AG ∧ Below w3.heap.size w3 wx)
      case first =>
        by_cases hn0 : n = 0
        · have hn0z : ¬ (0 : Int) < (n : Int) := by omega
          have hn0n : ¬ 0 < n := by omega
          have hb := Lib.hid (show false = AG by
            rw [HAGD.out]
            have : rowsOf ls = [] := List.eq_nil_of_length_eq_zero (by rw [hrl]; exact hn0)
            rw [this]
            rfl)
          clear hn0
          go_wp2_with fail
          go_meet
          exact ⟨by rw [← hb.out], Below.refl _ _⟩
        · have hn0z : (0 : Int) < (n : Int) := by omega
          have hn0n : 0 < n := by omega
          obtain ⟨np, hnp⟩ : ∃ np, np = n - 1 := ⟨_, rfl⟩
          have hnpz : (n : Int) - 1 = (np : Int) := by omega
          have hnpn : (np : Int) < (n : Int) := by omega
          have hnp0 : (0 : Int) ≤ (np : Int) := by omega
          have hnpw : IntKind.i64.wrap (np : Int) = (np : Int) := IntWalk.i64_in _ (by omega)
          have hat3 := HOW3.out.at_
          obtain ⟨b3, off3, hA3⟩ := hat3.addr (by have := HN.out; omega)
          subst hA3
          obtain ⟨B2, x2, d2, xs2, hat2, hxn2, hck2, hi2⟩ := hat3.row_at (k := np) (by have := HN.out; omega)
          have hb := Lib.hid (show decide (row = xs2) = AG by
            rw [HAGD.out, lastO_get none _ (by rw [hrl]; omega), hrl, ← hnp, snd_at hat2]
            simp only [Option.some.injEq]
            by_cases e : row = xs2
            · rw [decide_eq_true e, decide_eq_true e.symm]
            · rw [decide_eq_false e, decide_eq_false (fun h => e h.symm)])
          have HC := Lib.hid (equal_any row xs2 _ _ w3 HRI.out hi2)
          rw [hb.out] at HC
          clear hat2 hxn2 hi2 hn0 hnp hb hat3
          go_wp2_with (first | (go_at_call 34; refine HC.out.mono ?_; rintro x w4 ⟨rfl, q4, rfl⟩))
          go_meet
          exact ⟨rfl, below_drewN (Below.refl _ _) _⟩
      case rest =>
        obtain ⟨rfl, hbc⟩ := hcut
        have HAC := Lib.hid (HA3.out.trans (Apart.of_below (F := fun _ => False) hbc) (fun _ _ h => h.elim))
        have HRC := Lib.hid (HR3.out.keep hbc)
        have HOWC := Lib.hid (HOW3.out.keep hbc)
        have HRIC := Lib.hid (HRI.out.keep hbc)
        have HLTC := Lib.hid (fun k (hk : (Value.slice A n cap).ownBlock = some k) => HLT2.out k hk)
        have HRBC := Lib.hid (show rb < wc.heap.size from Nat.lt_of_lt_of_le HROWB.out.lt hbc.size)
        clear hbc
        by_cases hN0 : N = 0
        · subst hN0
          have HND := Lib.hid (HZ.out rfl)
          go_wp2_with fail
          go_ret2
          exact ⟨_, false, [], _, _, rfl, HAC.out, HRC.out, RowsOwn.nil _ _, (fun h => by cases h), fun _ => HND.out⟩
        · have hN0z : ((N : Int) == 0) = false := by simp; omega
          have HN0 := Lib.hid hN0
          clear hN0
          cases AG with
          | true =>
            have HND := Lib.hid (HAG.out (of_decide_eq_true HAGD.out.symm))
            go_wp2_with fail
            go_ret2
            exact ⟨_, false, [], _, _, rfl, HAC.out, HRC.out, RowsOwn.nil _ _, (fun h => by cases h), fun _ => HND.out⟩
          | false =>
            have hag := of_decide_eq_false HAGD.out.symm
            have HGN := Lib.hid (HGS.out HN0.out hag)
            clear hag
            have hbase : w.heap.size ≤ wc.heap.size := HAC.out.size
            obtain ⟨base, hbs⟩ : ∃ base, base = w.heap.size := ⟨_, rfl⟩
            have HBS := Lib.hid hbs
            rw [← hbs] at HOWC HRBW
            clear hbs
            have HM := Lib.hid hm
            have HCN := Lib.hid hc
            have HLC := Lib.hid hlc
            go_wp2_with fail
            go_loopg [6, 45] N (fun g2 s6 s45 wr2 => ∃ j : Nat, j ≤ N ∧ g2 = N - j ∧ s45 = .int .i64 j ∧ ∃ lj, RowsOwn wr2 base s6 lj ∧ rowsOf lj = rowsOf ls ++ List.replicate j row ∧ Apart (fun k => k = g) w wr2 ∧
              ReaderAt wr2 g (rdL 200 b1 e1 m).2.1 (rdL 200 b1 e1 m).2.2 ∧ IntsAt wr2 (.slice (some ⟨rb, 0, none⟩) m m) row ∧ (∀ k, s6.ownBlock = some k → k ≠ rb) ∧ rb < wr2.heap.size)
            case atStart => exact ⟨0, Nat.zero_le _, rfl, rfl, ls, HOWC.out, by simp, HAC.out, HRC.out, HRIC.out, fun k hk e => by have := HLTC.out k hk; omega, HRBC.out⟩
            case round =>
              obtain ⟨j, hj, hg2, rfl, lj, hown, hrows, ha, hrd, hri, hne, hlb⟩ := hrel
              have HG2 := Lib.hid hg2
              have HOJ := Lib.hid hown
              have HRS := Lib.hid hrows
              have HAJ := Lib.hid ha
              have HRJ := Lib.hid hrd
              have HIJ := Lib.hid hri
              have HNE := Lib.hid hne
              have HLB := Lib.hid hlb
              have HSJ := Lib.hid ha.size
              obtain ⟨A6, cap6, rfl⟩ := hown.form
              have HLJ := Lib.hid (show lj.length = n + j by
                have h := congrArg List.length hrows
                rwa [rowsOf_length, List.length_append, List.length_replicate, hrl] at h)
              clear hg2 hown hrows ha hrd hri hne hlb
              by_cases hlt2 : j < N
              · have hlt2z : (j : Int) < (N : Int) := by omega
                have HCL := Lib.hid (cloneInts_any _ row wr HIJ.out (by have := HROWL.out; have := HM.out; omega))
                go_wp2_with fail
                refine HCL.out.mono ?_
                rintro x w4 ⟨A4, c4, rfl, hi4, hblk, hb4⟩
                rw [HROWL.out] at hi4 hblk ⊢
                have hb5 := below_new (W := w4) (.cells #[.slice A4 m c4] 39)
                have hbx : Below wr.heap.size wr (w4.alloc (.cells #[.slice A4 m c4] 39)) := hb4.trans (hb5.mono hb4.size)
                have hsz5 := World.size_alloc w4 (.cells #[.slice A4 m c4] 39)
                have HBX := Lib.hid hbx
                have HO5 := Lib.hid (HOJ.out.keep hbx)
                have HI5 := Lib.hid (hi4.keep hb5)
                have HCELL := Lib.hid (Boxed.new w4 39 (.slice A4 m c4)).cell
                have HUB := Lib.hid (show ∀ k, (Value.slice A4 m c4).ownBlock = some k → (Value.slice A6 lj.length cap6).ownBlock ≠ some k ∧ base ≤ k ∧ k < (w4.alloc (.cells #[.slice A4 m c4] 39)).heap.size from fun k hk => by
                  have h1 := hblk k hk
                  refine ⟨fun e => ?_, ?_, by rw [hsz5]; omega⟩
                  · have := (HOJ.out.lt k e).2; omega
                  · have := HSJ.out; have := HBS.out; omega)
                have HLL := Lib.hid (show lj.length ≤ 1000000 by have := HLJ.out; have := HCN.out; omega)
                have HBB := Lib.hid (show base ≤ (w4.alloc (.cells #[.slice A4 m c4] 39)).heap.size by have := hbx.size; have := HSJ.out; have := HBS.out; omega)
                clear hi4 hblk hb4 hb5 hbx hsz5
                go_wp2_with (at_builtin; refine wpList_append_row rfl _ _ 22 rfl base Try.underlying22 Try.infoRow _ lj rfl HO5.out w4.heap.size 1 A4 m c4 row rfl HCELL.out HI5.out HUB.out HLL.out HBB.out ?_)
                intro v6 w6 hown6 hb6 hloc6 hap6
                have HO6 := Lib.hid hown6
                have HA6 := Lib.hid (((HAJ.out.then_below HBX.out HSJ.out).then_below hb6 (by have := HBS.out; omega)))
                have HR6 := Lib.hid ((HRJ.out.keep HBX.out).stay hb6 (by have := HGL.out; have := HBS.out; omega))
                have HI6 := Lib.hid ((HIJ.out.keep HBX.out).apart hap6 (fun k hk e => by
                  have e' : k = rb := by injection hk with hk; exact hk.symm
                  exact HNE.out k e e'))
                have HNE6 := Lib.hid (show ∀ k, v6.ownBlock = some k → k ≠ rb from fun k hk e => by
                  rcases hloc6 with h | h
                  · rw [h] at hk; exact HNE.out k hk e
                  · rw [h] at hk
                    injection hk with hk
                    have := HLB.out
                    have h1 := HBX.out.size
                    rw [World.size_alloc] at h1
                    omega)
                have HLB6 := Lib.hid (show rb < w6.heap.size by have := HLB.out; have := HBX.out.size; have := hb6.size; omega)
                clear hown6 hb6 hloc6 hap6
                go_wp2_with fail
                go_roundg (N - (j + 1))
                case measure => have := HG2.out; omega
                case rel =>
                  refine ⟨j + 1, by omega, rfl, by go_num, _, HO6.out, ?_, HA6.out, HR6.out, HI6.out, HNE6.out, HLB6.out⟩
                  rw [rowsOf_snoc, HRS.out, List.replicate_succ', List.append_assoc]
              · have hlt2z : ¬ (j : Int) < (N : Int) := by omega
                have hjN : j = N := by omega
                subst hjN
                have HFN := Lib.hid (show Fits m c bs (rowsOf lj) (rdL 200 b1 e1 m).2.1 (rdL 200 b1 e1 m).2.2 by rw [HRS.out]; exact HST.out)
                have HGN2 := Lib.hid (show Goes m c bs (rowsOf lj) (rdL 200 b1 e1 m).2.1 (rdL 200 b1 e1 m).2.2 by rw [HRS.out]; exact HGN.out)
                go_wp2_with fail
                go_roundg (c - (n + j))
                case measure => have := HG.out; have := HN0.out; omega
                case rel =>
                  exact ⟨lj, _, _, by have := HLJ.out; have := HDN.out; omega, by rw [HLJ.out], by rw [← HBS.out]; exact HOJ.out, HAJ.out, HRJ.out, HFN.out, HGN2.out⟩
    · have hltz : ¬ (n : Int) < (c : Int) := by omega
      have hnc : n = c := by omega
      subst hnc
      go_wp2_with fail
      go_ret2
      exact ⟨_, true, ls, bk, ek, rfl, HA.out, HRD.out, HOW.out, fun _ => ⟨HN.out, HFK.out, HGK.out⟩, fun h => by cases h⟩
end Go.Proofs.Ytaffcpjhaacadaa
