/-
  Norm of the program: the normal list of all numbers that some span has.
  Conditions: none beyond what the slice reads as.
-/
import Derived.Test.YtademjmnoncieaaSort
set_option linter.unusedVariables false
namespace Go.Proofs.Ytademjmnoncieaa
open Go.RowKit

def NormRel (base m : Nat) (qs : List Sp) (w3 : World) (g : Nat) (s4 s15 : Value) (wr : World) : Prop :=
  ∃ i : Nat, i ≤ m ∧ g = m - i ∧ s15 = .int .i64 i ∧ Below w3.heap.size w3 wr ∧ wr.ownsRow w3.heap.size 77 2 s4 (joinT [] (qs.take i)).length (spansCells (joinT [] (qs.take i)))

theorem take_join {qs : List Sp} {i : Nat} {y : Sp} (h : qs[i]? = some y) : joinT [] (qs.take (i + 1)) = joinStep (joinT [] (qs.take i)) y := by
  rw [take_succ_of h, joinT_snoc]

set_option maxRecDepth 100000 in
set_option maxHeartbeats 4000000 in
theorem norm_any (v : Value) (ps : List Sp) (w : World) (h : SpansAt w v ps) : Calls Try.prog 43 #[v] w (RetS (normT ps) w) := by
  obtain ⟨i0, hi, hz0, hz1, hz2⟩ := info_parts Try.infoSpan
  have HL := Lib.hid h.len
  have HC := Lib.hid (clone_any v ps w h)
  clear h
  go_enter Try.func43, Try.ntmps43
  go_wp2_with fail
  refine HC.out.mono ?_
  rintro e w1 ⟨v1, rfl, hown1, hb1⟩
  have HD := Lib.hid (delete_any w.heap.size v1 ps w1 hown1 HL.out hb1.size)
  have HB1 := Lib.hid hb1
  clear hown1 hb1
  go_wp2_with fail
  refine HD.out.mono ?_
  rintro e w2 ⟨v2, rfl, hown2, hb2⟩
  have hfl := List.length_filter_le fullS ps
  have HB2 := Lib.hid (HB1.out.trans hb2)
  have HS := Lib.hid (sort_any w.heap.size v2 (ps.filter fullS) w2 hown2 (by have := HL.out; omega) (by exact HB2.out.size))
  clear hown2 hb2
  go_wp2_with fail
  refine HS.out.mono ?_
  rintro e w3 ⟨rfl, qs, hperm, hris, hown3, hb3⟩
  have HB3 := Lib.hid (HB2.out.trans hb3)
  have hql : qs.length ≤ 100000 := by have := hperm.length_eq; have := HL.out; omega
  have HQ := Lib.hid (spans_of_own hown3 hql)
  have HE := Lib.hid (joined_eq hperm hris)
  have hq2 := hperm.length_eq
  clear hown3 hb3 hperm hris HS HD HC
  obtain ⟨A, c, hv2, hc1, _, hc2, hat⟩ := HQ.out
  subst hv2
  have HAT := Lib.hid hat
  generalize hn : qs.length = n at *
  have HN := Lib.hid hn
  clear hat hn hfl hq2
  go_wp2_with fail
  go_loopg [4, 6, 7, 15] n (fun gg s4 _ _ s15 wr => NormRel w.heap.size n qs w3 gg s4 s15 wr)
  case atStart => exact ⟨0, Nat.zero_le _, by omega, rfl, Below.refl _ _, World.ownsRow_nil _ _ _ _⟩
  case round =>
    obtain ⟨i, hin, hgg, rfl, hbw, hown⟩ := hrel
    have HG := Lib.hid hgg
    have HB := Lib.hid hbw
    have HO := Lib.hid hown
    clear hgg hbw hown
    by_cases hlt : i < n
    · have hltz : (i : Int) < (n : Int) := by omega
      obtain ⟨b, off, hA, hbl, hcell⟩ := HAT.out (by omega)
      subst hA
      obtain ⟨y, hy⟩ := ex_at5 (xs := qs) (k := i) (by rw [HN.out]; exact hlt)
      obtain ⟨c1, c2⟩ := (hcell i y hy).keep HB.out hbl
      have HY := Lib.hid (take_join hy)
      have hrl : (joinT [] (qs.take i)).length ≤ i := by
        have := joinT_length (qs.take i) []
        rw [List.length_take] at this
        simp at this
        omega
      clear hcell hy
      obtain ⟨y1, y2⟩ := y
      simp only at c1 c2
      have hsz := HB.out.size
      generalize joinT [] (qs.take i) = row at *
      rcases List.eq_nil_or_concat row with rfl | ⟨r, l, rfl⟩
      · rw [joinStep_nil] at HY
        have HO' := HO.out
        obtain ⟨A0, k0, rfl⟩ := own_form HO'
        simp only [List.length_nil] at HO HO' hrl ⊢
        clear HO'
        go_wp2_with fail
        go_quiet (fail)
        go_wp2_with (at_builtin; refine wpList_append_own _ rfl _ _ 88 rfl w3.heap.size 77 i0 (.agg #[.int .i64 0, .int .i64 0]) 2 16 Try.underlying88 hi hz0 hz1 hz2 rfl (by decide) _ _ _ rfl ((own_draw (HO.out.alloc _) nq).alloc _) ⟨wr.heap.size + 1, 0, none⟩ 1 1 [.int .i64 y1, .int .i64 y2] rfl rfl ?c1 ?c2 ?c3 ?c4 ?c5 ?_)
        case c1 => exact news_two _ _ (by simp) _ _ _
        case c2 => intro u hu; simp at hu; rcases hu with rfl | rfl <;> rfl
        case c3 => unfold maxLen; omega
        case c4 => omega
        case c5 => simp; omega
        intro v4 w4 hown4 hgrow _
        have HB4 := Lib.hid (((below_drewN5 (HB.out.alloc hsz _) nq).alloc (by simp; omega) _).trans (below_grown5 hgrow (by simp; omega) (own_base5 HO.out)))
        have HO4 := Lib.hid hown4
        clear hown4 hgrow
        go_wp2
        go_roundg (n - (i + 1))
        case measure => have := HG.out; omega
        case rel =>
          refine ⟨i + 1, by omega, rfl, by go_num, HB4.out, ?_⟩
          rw [HY.out]
          exact HO4.out
      · rw [List.concat_eq_append] at HO HY hrl
        rw [joinStep_snoc] at HY
        have hgt : (r ++ [l])[r.length]? = some l := by simp
        have hpos : 0 < (r ++ [l]).length := by simp
        obtain ⟨g, cap, rfl, hbg, hgl, hncap, hcm, hat, hfr⟩ := own_lies HO.out hpos
        obtain ⟨d1, d2⟩ := hat r.length l hgt
        have f2 := hfr (r.length * 2 + 1) (by simp; omega)
        have HGT := Lib.hid (fun t => spansCells_set2 (r ++ [l]) r.length l t hgt)
        have HST := Lib.hid (show ∀ q : Sp, (r ++ [l]).set r.length q = r ++ [q] from fun q => by simp)
        rw [List.length_append, List.length_singleton] at *
        clear hat hfr hgt hpos
        generalize hq : r.length = q at *
        have HQL := Lib.hid hq
        clear hq
        obtain ⟨l1, l2⟩ := l
        simp only at d1 d2 HY HGT
        have hne : g ≠ wr.heap.size := by omega
        by_cases hc : y1 ≤ l2
        · have hcb : decide (y1 ≤ l2) = true := decide_eq_true hc
          rw [if_pos hc] at HY
          go_wp2_with fail
          go_quiet (fail)
          go_wp2_with fail
          go_region
          go_wp2
          go_roundg (n - (i + 1))
          case measure => have := HG.out; omega
          case rel =>
            refine ⟨i + 1, by omega, rfl, by go_num, (below_drewN5 (HB.out.alloc hsz _) _).setCell hbg _, ?_⟩
            have h := own_set (k := q * 2 + 1) (own_draw (HO.out.alloc (Obj.cells #[.int .i64 y1, .int .i64 y2] 77)) (nq + 1)) (.int .i64 (max l2 y2))
            have hl : (r ++ [(l1, max l2 y2)]).length = q + 1 := by have := HQL.out; simp; omega
            rw [HGT.out, HST.out] at h
            rw [HY.out, hl]
            exact h
        · have hcb : decide (y1 ≤ l2) = false := decide_eq_false hc
          rw [if_neg hc] at HY
          go_wp2_with fail
          go_quiet (fail)
          go_wp2_with (at_builtin; refine wpList_append_own _ rfl _ _ 88 rfl w3.heap.size 77 i0 (.agg #[.int .i64 0, .int .i64 0]) 2 16 Try.underlying88 hi hz0 hz1 hz2 rfl (by decide) _ _ _ rfl ((own_draw (HO.out.alloc _) nq).alloc _) ⟨wr.heap.size + 1, 0, none⟩ 1 1 [.int .i64 y1, .int .i64 y2] rfl rfl ?c1 ?c2 ?c3 ?c4 ?c5 ?_)
          case c1 => exact news_two _ _ (by simp) _ _ _
          case c2 => intro u hu; simp at hu; rcases hu with rfl | rfl <;> rfl
          case c3 => unfold maxLen; omega
          case c4 => omega
          case c5 => simp; omega
          intro v4 w4 hown4 hgrow _
          have HB4 := Lib.hid (((below_drewN5 (HB.out.alloc hsz _) nq).alloc (by simp; omega) _).trans (below_grown5 hgrow (by simp; omega) (own_base5 HO.out)))
          have HO4 := Lib.hid hown4
          clear hown4 hgrow
          go_wp2
          go_roundg (n - (i + 1))
          case measure => have := HG.out; omega
          case rel =>
            refine ⟨i + 1, by omega, rfl, by go_num, HB4.out, ?_⟩
            have h4 := HO4.out
            have hl : (r ++ [(l1, l2)] ++ [(y1, y2)]).length = q + 1 + 1 := by have := HQL.out; simp; omega
            rw [HY.out, spansCells_snoc, hl]
            exact h4
    · have hin' : i = n := by omega
      subst hin'
      have hltz : ¬ (i : Int) < (i : Int) := by omega
      have HR := Lib.hid (show joinT [] (qs.take i) = normT ps by rw [← HN.out, List.take_length]; exact HE.out)
      have hlen := normT_length ps
      have HL2 := HL.out
      rw [HR.out] at HO
      have HF := Lib.hid (spans_of_own HO.out (by omega))
      clear hlen
      go_wp2
      go_ret
      exact ⟨_, rfl, HF.out, HB3.out.trans (HB.out.mono HB3.out.size)⟩
end Go.Proofs.Ytademjmnoncieaa
