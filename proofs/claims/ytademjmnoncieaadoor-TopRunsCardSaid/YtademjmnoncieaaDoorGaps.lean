/-
  Gaps and Less of the program.
  Conditions: none beyond what the slices read as.
-/
import Derived.Test.YtademjmnoncieaaDoorMeet
set_option linter.unusedVariables false
namespace Go.Proofs.YtademjmnoncieaaDoor
open Go.RowKit

def GapsRel (r : List Sp) (to f0 : Int) (w1 : World) (g : Nat) (s1 s7 s13 : Value) (wr : World) : Prop :=
  ∃ (i : Nat) (f : Int) (row : List Sp), i ≤ r.length ∧ g = r.length - i ∧ s13 = .int .i64 i ∧ s1 = .int .i64 f ∧ row ++ gapsT to f (r.drop i) = gapsT to f0 r ∧ row.length = i ∧
    Below w1.heap.size w1 wr ∧ wr.ownsRow w1.heap.size 27 2 s7 row.length (spansCells row)

set_option maxRecDepth 100000 in
set_option maxHeartbeats 4000000 in
theorem gaps_any (v : Value) (ps : List Sp) (f0 to : Int) (w : World) (h : SpansAt w v ps) (hl : ps.length ≤ 90000) :
    Calls Tryd.prog 6 #[v, .int .i64 f0, .int .i64 to] w (RetS (gapsN ps f0 to) w) := by
  obtain ⟨i0, hi, hz0, hz1, hz2⟩ := info_parts Tryd.infoSpan
  have HC := Lib.hid (norm_any v ps w h)
  have hla := normT_length ps
  have HM := Lib.hid (show gapsN ps f0 to = (gapsT to f0 (normT ps)).filter fullS from rfl)
  generalize normT ps = r at *
  clear h
  go_enter Tryd.func6, Tryd.ntmps6
  go_wp2_with fail
  refine HC.out.mono ?_
  rintro e w1 ⟨v1, rfl, hat1, hb1⟩
  obtain ⟨A, c, rfl, hc1, hlen, hc2, hat⟩ := hat1
  have HAT := Lib.hid hat
  have HB1 := Lib.hid hb1
  clear hat hb1 HC
  go_wp2_with fail
  go_loopg [1, 7, 9, 13] r.length (fun gg s1 s7 _ s13 wr => GapsRel r to f0 w1 gg s1 s7 s13 wr)
  case atStart => exact ⟨0, f0, [], Nat.zero_le _, by omega, rfl, rfl, rfl, rfl, Below.refl _ _, World.ownsRow_nil _ _ _ _⟩
  case round =>
    obtain ⟨i, f, row, hin, hgg, rfl, rfl, hrow, hrl, hbw, hown⟩ := hrel
    have HG := Lib.hid hgg
    have HB := Lib.hid hbw
    have HO := Lib.hid hown
    have HR := Lib.hid hrow
    have HRL := Lib.hid hrl
    have hsz := hbw.size
    clear hgg hbw hown hrow
    by_cases hlt : i < r.length
    · obtain ⟨b, off, hA, hbl, hcell⟩ := HAT.out (by omega)
      subst hA
      obtain ⟨y, hy⟩ := ex_at5 (xs := r) (k := i) hlt
      obtain ⟨c1, c2⟩ := (hcell i y hy).keep HB.out hbl
      have HD := Lib.hid (show r.drop i = y :: r.drop (i + 1) by rw [List.drop_eq_getElem_cons hlt, (List.getElem?_eq_some_iff.1 hy).2])
      obtain ⟨y1, y2⟩ := y
      simp only at c1 c2
      generalize hn : r.length = n at *
      have HN := Lib.hid hn
      have hltz : (i : Int) < (n : Int) := by omega
      have HROW := Lib.hid (spansCells_snoc row (f, min y1 to))
      have HRR := Lib.hid (show (row ++ [(f, min y1 to)]) ++ gapsT to (max f y2) (r.drop (i + 1)) = gapsT to f0 r by
        rw [← HR.out, HD.out, List.append_assoc]; rfl)
      rw [hrl] at HO
      have HBX := Lib.hid (HB.out.alloc hsz (Obj.cells #[.int .i64 y1, .int .i64 y2] 27))
      clear hcell hy hn hrl
      go_wp2_with (at_builtin; refine wpList_append_own _ rfl _ _ 23 rfl w1.heap.size 27 i0 (.agg #[.int .i64 0, .int .i64 0]) 2 16 Tryd.underlying23 hi hz0 hz1 hz2 rfl (by decide) _ _ _ rfl ((HO.out.alloc _).alloc _) ⟨wr.heap.size + 1, 0, none⟩ 1 1 [.int .i64 f, .int .i64 (min y1 to)] rfl rfl (news_two _ _ (by simp) _ _ _) (by intro u hu; simp at hu; rcases hu with rfl | rfl <;> rfl) ?c3 ?c4 ?c5 ?_)
      case c3 => unfold maxLen; omega
      case c4 => omega
      case c5 => first | omega | (simp; omega)
      intro v4 w4 hown4 hgrow _
      have hd2 : w4.cell? ⟨wr.heap.size, 1, none⟩ = some (.int .i64 y2) := by
        have := (own_base5 HO.out)
        rw [hgrow.cell_far _ (by simp; omega) (fun e => by
          rcases HO.out.lt _ e.symm with ⟨_, h2⟩
          simp at h2)]
        simp
      have HB4 := Lib.hid ((HBX.out.alloc (by simp; omega) _).trans (below_grown5 hgrow (by simp; omega) (own_base5 HO.out)))
      have HO4 := Lib.hid hown4
      clear hown4 hgrow
      go_wp2
      go_roundg (n - (i + 1))
      case measure => have := HG.out; omega
      case rel =>
        refine ⟨i + 1, max f y2, row ++ [(f, min y1 to)], by have := HN.out; omega, by rw [HN.out], by go_num, rfl, HRR.out, by rw [List.length_append, HRL.out]; rfl, HB4.out, ?_⟩
        rw [HROW.out, List.length_append, HRL.out]
        exact HO4.out
    · have hin' : i = r.length := by omega
      have HROW := Lib.hid (spansCells_snoc row (f, to))
      have HRR := Lib.hid (show row ++ [(f, to)] = gapsT to f0 r by rw [← HR.out, hin', List.drop_length]; rfl)
      have hltz : ¬ (i : Int) < (r.length : Int) := by omega
      rw [hrl] at HO
      clear hrl hin'
      go_wp2_with (at_builtin; refine wpList_append_own _ rfl _ _ 23 rfl w1.heap.size 27 i0 (.agg #[.int .i64 0, .int .i64 0]) 2 16 Tryd.underlying23 hi hz0 hz1 hz2 rfl (by decide) _ _ _ rfl (HO.out.alloc _) ⟨wr.heap.size, 0, none⟩ 1 1 [.int .i64 f, .int .i64 to] rfl rfl (news_two _ _ rfl _ _ _) (by intro u hu; simp at hu; rcases hu with rfl | rfl <;> rfl) ?c3 ?c4 ?c5 ?_)
      case c3 => unfold maxLen; omega
      case c4 => omega
      case c5 => first | omega | (simp; omega)
      intro v4 w4 hown4 hgrow _
      have hb4 := (HB.out.alloc hsz (Obj.cells #[.int .i64 f, .int .i64 to] 27)).trans (below_grown5 hgrow (by simp; omega) (own_base5 HO.out))
      have hrl2 : (row ++ [(f, to)]).length = i + 1 := by rw [List.length_append, HRL.out]; rfl
      have HD2 := Lib.hid (delete_any w1.heap.size v4 (row ++ [(f, to)]) w4 (by rw [HROW.out, hrl2]; exact hown4) (by omega) hb4.size)
      have HB4 := Lib.hid hb4
      clear hown4 hgrow hb4
      go_wp2_with fail
      refine HD2.out.mono ?_
      rintro e w5 ⟨v5, rfl, hown5, hb5⟩
      have hfl := List.length_filter_le fullS (row ++ [(f, to)])
      have HF := Lib.hid (spans_of_own hown5 (by omega))
      have HB5 := Lib.hid (HB1.out.trans ((HB4.out.trans hb5).mono HB1.out.size))
      have HE := Lib.hid (show gapsN ps f0 to = (row ++ [(f, to)]).filter fullS by rw [HM.out, HRR.out])
      clear hown5 hb5 hfl
      go_wp2
      go_ret
      exact ⟨_, rfl, by rw [HE.out]; exact HF.out, HB5.out⟩
end Go.Proofs.YtademjmnoncieaaDoor
