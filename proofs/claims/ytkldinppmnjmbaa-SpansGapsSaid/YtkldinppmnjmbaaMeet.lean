/-
  Meet, Gaps and Less of the program.
  Conditions: none beyond what the slices read as.
-/
import Derived.Test.YtkldinppmnjmbaaNorm
set_option linter.unusedVariables false
namespace Go.Proofs.Ytkldinppmnjmbaa
open Go.RowKit

/-- A slice with a first span: where it lies, and the slice behind it. -/
theorem spans_first {W : World} {v : Value} {p : Sp} {ps : List Sp} (h : SpansAt W v (p :: ps)) :
    ∃ b o c, v = .slice (some ⟨b, o, none⟩) (ps.length + 1) c ∧ ps.length + 1 ≤ c ∧ c ≤ 9223372036854775807 ∧ ps.length + 1 ≤ 100000 ∧ b < W.heap.size ∧ PairAt W b o p ∧
      ∀ W', Below W.heap.size W W' → (c = 1 → SpansAt W' (.slice (some ⟨b, o, none⟩) 0 0) ps) ∧ SpansAt W' (.slice (some ⟨b, o + 2, none⟩) ps.length (c - 1)) ps := by
  have h0 := h
  obtain ⟨A, c, h1, h2, h3, h4, h5⟩ := h
  simp only [List.length_cons] at h1 h2 h3 h5
  obtain ⟨b, o, e, hbl, hcell⟩ := h5 (by omega)
  subst e
  subst h1
  refine ⟨b, o, c, rfl, h2, h4, h3, hbl, by simpa using hcell 0 p rfl, fun W' hb => ⟨fun hc => ?_, ?_⟩⟩
  · have : ps = [] := List.eq_nil_of_length_eq_zero (by omega)
    subst this
    exact ⟨_, _, rfl, by simp, by simp, by simp, fun h => absurd h (by simp)⟩
  · have := (h0.keep hb).tail
    simpa using this

theorem spans_form {W : World} {v : Value} {ps : List Sp} (h : SpansAt W v ps) : ∃ A c, v = .slice A ps.length c := by
  obtain ⟨A, c, h, _⟩ := h
  exact ⟨A, c, h⟩

def MeetRel (a b : List Sp) (base : Nat) (w2 : World) (g : Nat) (s0 s1 s5 : Value) (wr : World) : Prop :=
  ∃ a' b' row, g = a'.length + b'.length ∧ SpansAt w2 s0 a' ∧ SpansAt w2 s1 b' ∧ row ++ meetT a' b' = meetT a b ∧ Below w2.heap.size w2 wr ∧ wr.ownsRow w2.heap.size 45 2 s5 row.length (spansCells row)

set_option maxRecDepth 100000 in
set_option maxHeartbeats 8000000 in
theorem meet_any (x y : Value) (a b : List Sp) (w : World) (hx : SpansAt w x a) (hy : SpansAt w y b) (hl : a.length + b.length ≤ 100000) :
    Calls Try.prog 20 #[x, y] w (RetS (meetN a b) w) := by
  obtain ⟨i0, hi, hz0, hz1, hz2⟩ := info_parts Try.infoSpan
  have HX := Lib.hid hx
  have HY := Lib.hid hy
  have HC := Lib.hid (norm_any x a w hx)
  clear hx hy
  go_enter Try.func20, Try.ntmps20
  go_wp2_with fail
  refine HC.out.mono ?_
  rintro e w1 ⟨v1, rfl, hat1, hb1⟩
  have HD := Lib.hid (norm_any y b w1 (HY.out.keep hb1))
  have HB1 := Lib.hid hb1
  have HA1 := Lib.hid hat1
  clear hat1 hb1
  go_wp2_with fail
  refine HD.out.mono ?_
  rintro e w2 ⟨v2, rfl, hat2, hb2⟩
  have HA := Lib.hid (HA1.out.keep hb2)
  have HB := Lib.hid hat2
  have HB2 := Lib.hid (HB1.out.trans (hb2.mono HB1.out.size))
  have hla := normT_length a
  have hlb := normT_length b
  have HM := Lib.hid (show meetN a b = (meetT (normT a) (normT b)).filter fullS from rfl)
  have HLM := Lib.hid (meetT_length _ (normT a) (normT b) (Nat.le_refl _))
  generalize normT a = na at *
  generalize normT b = nb at *
  clear hat2 hb2 HC HD HA1 HX HY
  go_wp2_with fail
  go_loopg [0, 1, 5] (na.length + nb.length) (fun g s0 s1 s5 wr => MeetRel na nb 0 w2 g s0 s1 s5 wr)
  case atStart => exact ⟨na, nb, [], rfl, HA.out, HB.out, rfl, Below.refl _ _, World.ownsRow_nil _ _ _ _⟩
  case round =>
    obtain ⟨a', b', row, hg, ha', hb', hrow, hbw, hown⟩ := hrel
    have HG := Lib.hid hg
    have HBW := Lib.hid hbw
    have HO := Lib.hid hown
    have HR := Lib.hid hrow
    have hrl : row.length + (meetT a' b').length ≤ 100000 := by
      rw [← List.length_append, hrow]
      have := HLM.out
      omega
    clear hg hbw hown hrow
    rcases a' with _ | ⟨p, ra⟩
    · have HR2 := Lib.hid (show row = meetT na nb by rw [← HR.out, meetT_nil, List.append_nil])
      obtain ⟨A1, k1, rfl⟩ := spans_form ha'
      obtain ⟨A2, k2, rfl⟩ := spans_form hb'
      clear ha' hb'
      have hrl2 : row.length ≤ 100000 := by omega
      have HD2 := Lib.hid (delete_any w2.heap.size u5 row wr HO.out hrl2 HBW.out.size)
      go_wp2_with fail
      refine HD2.out.mono ?_
      rintro e w4 ⟨v4, rfl, hown4, hb4⟩
      have hfl := List.length_filter_le fullS row
      have HF := Lib.hid (spans_of_own hown4 (by omega))
      have HB4 := Lib.hid (HB2.out.trans ((HBW.out.trans hb4).mono HB2.out.size))
      have HE := Lib.hid (show meetN a b = row.filter fullS by rw [HM.out, HR2.out])
      clear hown4 hb4 hfl
      go_wp2
      go_ret
      exact ⟨_, rfl, by rw [HE.out]; exact HF.out, HB4.out⟩
    · rcases b' with _ | ⟨q, rb⟩
      · have HR2 := Lib.hid (show row = meetT na nb by rw [← HR.out, meetT_nil', List.append_nil])
        obtain ⟨A1, k1, rfl⟩ := spans_form ha'
        obtain ⟨A2, k2, rfl⟩ := spans_form hb'
        have z1 : (0 : Int) < ((ra.length + 1 : Nat) : Int) := by omega
        have z2 : decide ((0 : Int) < ((ra.length : Nat) : Int) + 1) = true := decide_eq_true (by omega)
        clear ha' hb'
        have hrl2 : row.length ≤ 100000 := by omega
        have HD2 := Lib.hid (delete_any w2.heap.size u5 row wr HO.out hrl2 HBW.out.size)
        go_wp2_with fail
        refine HD2.out.mono ?_
        rintro e w4 ⟨v4, rfl, hown4, hb4⟩
        have hfl := List.length_filter_le fullS row
        have HF := Lib.hid (spans_of_own hown4 (by omega))
        have HB4 := Lib.hid (HB2.out.trans ((HBW.out.trans hb4).mono HB2.out.size))
        have HE := Lib.hid (show meetN a b = row.filter fullS by rw [HM.out, HR2.out])
        clear hown4 hb4 hfl
        go_wp2
        go_ret
        exact ⟨_, rfl, by rw [HE.out]; exact HF.out, HB4.out⟩
      · obtain ⟨b1, o1, c1, rfl, n1c, c1m, n1m, hb1l, hp, ht1⟩ := spans_first ha'
        obtain ⟨b2, o2, c2, rfl, n2c, c2m, n2m, hb2l, hq, ht2⟩ := spans_first hb'
        obtain ⟨e1, e2⟩ := hp.keep HBW.out hb1l
        obtain ⟨e3, e4⟩ := hq.keep HBW.out hb2l
        have HT1 := Lib.hid ht1
        have HT2 := Lib.hid ht2
        have HA' := Lib.hid ha'
        have HB' := Lib.hid hb'
        clear ha' hb' hp hq ht1 ht2
        generalize hn1 : ra.length = n1 at *
        generalize hn2 : rb.length = n2 at *
        have HN1 := Lib.hid hn1
        have HN2 := Lib.hid hn2
        clear hn1 hn2
        obtain ⟨A0, k0, rfl⟩ := own_form HO.out
        have ak1 : (Value.slice A0 row.length k0).ownBlock ≠ some b1 := fun e => by have := own_base5 HO.out _ e; omega
        have ak2 : (Value.slice A0 row.length k0).ownBlock ≠ some b2 := fun e => by have := own_base5 HO.out _ e; omega
        obtain ⟨p1, p2⟩ := p
        obtain ⟨q1, q2⟩ := q
        simp only at e1 e2 e3 e4
        have hsz := HBW.out.size
        rw [meetT_cons] at HR hrl
        simp only [List.length_cons] at hrl
        have z1 : (0 : Int) < (n1 : Int) + 1 := by omega
        have z2 : (0 : Int) < (n2 : Int) + 1 := by omega
        have lb1 : b1 < wr.heap.size := by omega
        have lb2 : b2 < wr.heap.size := by omega
        generalize hm : row.length = m at *
        have HMM := Lib.hid hm
        clear hm
        go_wp2_with fail
        go_region_held3 (fun w' => w'.cell? ⟨b1, o1, none⟩ = some (.int .i64 p1) ∧ w'.cell? ⟨b1, o1 + 1, none⟩ = some (.int .i64 p2) ∧ w'.cell? ⟨b2, o2, none⟩ = some (.int .i64 q1) ∧ w'.cell? ⟨b2, o2 + 1, none⟩ = some (.int .i64 q2))
          (first
            | go_keep
            | (go_split_ands
               refine ⟨?_, ?_, ?_, ?_⟩
               · (rw [hgrow.cell_far _ (by simp; omega) (Ne.symm ak1)]; assumption)
               · (rw [hgrow.cell_far _ (by simp; omega) (Ne.symm ak1)]; assumption)
               · (rw [hgrow.cell_far _ (by simp; omega) (Ne.symm ak2)]; assumption)
               · (rw [hgrow.cell_far _ (by simp; omega) (Ne.symm ak2)]; assumption)))
          ((refine step_append_lies _ (by rfl) _ _ _ (by rfl) w2.heap.size 45 i0 _ 2 16 Try.underlying24 hi hz0 hz1 hz2 rfl (by omega) (Value.slice A0 m k0) m (spansCells row) (by rfl) ((own_draw HO.out 1).alloc _)
              ⟨wr.heap.size, 0, none⟩ 1 1 [.int .i64 (max p1 q1), .int .i64 (min p2 q2)] (by rfl) (by rfl) (news_two _ _ (by simp) _ _ _) (by simp [Value.oneCell'])
              (by omega) (by unfold maxLen; omega) (by omega) (by simp; omega) (wr.heap.size + 1) (by simp) ?_; intro gg cap w3 hown3 hgrow hat hlt))
        all_goals
          have g2 := (hgrow.cell_far (⟨b1, o1 + 1, none⟩ : Addr) (by simp; omega) (Ne.symm ak1)).trans (show _ = some (Value.int .i64 p2) by simp [*, World.cell?_alloc_some])
          have g4 := (hgrow.cell_far (⟨b2, o2 + 1, none⟩ : Addr) (by simp; omega) (Ne.symm ak2)).trans (show _ = some (Value.int .i64 q2) by simp [*, World.cell?_alloc_some])
          have HB3 := Lib.hid ((HBW.out.alloc hsz (Obj.cells #[Value.int .i64 (max p1 q1), Value.int .i64 (min p2 q2)] 45)).drew.trans (below_grown5 hgrow (by simp; omega) (own_base5 HO.out)))
          have HO3 := Lib.hid hown3
          have HROW := Lib.hid (spansCells_snoc row (max p1 q1, min p2 q2))
          clear hown3 hgrow hat hlt e1 e2 e3 e4 ak1 ak2
          by_cases hc : p2 < q2
          · have hcb : decide (p2 < q2) = true := decide_eq_true hc
            rw [if_pos hc] at HR
            clear hc
            by_cases hc1 : c1 = 1
            · subst hc1
              go_wp2_with fail
              go_quiet (fail)
              go_wp2_with fail
              go_roundg (ra.length + ((q1, q2) :: rb).length)
              case measure => have := HG.out; simp only [List.length_cons] at *; omega
              case rel =>
                refine ⟨ra, (q1, q2) :: rb, row ++ [(max p1 q1, min p2 q2)], rfl, (by first | exact (HT1.out w2 (Below.refl _ _)).1 rfl | exact (HT1.out w2 (Below.refl _ _)).1 trivial), HB'.out, by rw [List.append_assoc]; exact HR.out, below_drewN HB3.out _, ?_⟩
                rw [HROW.out, List.length_append, HMM.out]
                exact own_draw HO3.out _
            · have hc2 : ¬ c1 - 1 = 0 := by omega
              go_wp2_with fail
              go_quiet (fail)
              go_wp2_with fail
              go_roundg (ra.length + ((q1, q2) :: rb).length)
              case measure => have := HG.out; simp only [List.length_cons] at *; omega
              case rel =>
                refine ⟨ra, (q1, q2) :: rb, row ++ [(max p1 q1, min p2 q2)], rfl, (HT1.out w2 (Below.refl _ _)).2, HB'.out, by rw [List.append_assoc]; exact HR.out, below_drewN HB3.out _, ?_⟩
                rw [HROW.out, List.length_append, HMM.out]
                exact own_draw HO3.out _
          · have hcb : decide (p2 < q2) = false := decide_eq_false hc
            rw [if_neg hc] at HR
            clear hc
            by_cases hc1 : c2 = 1
            · subst hc1
              go_wp2_with fail
              go_quiet (fail)
              go_wp2_with fail
              go_roundg (((p1, p2) :: ra).length + rb.length)
              case measure => have := HG.out; simp only [List.length_cons] at *; omega
              case rel =>
                refine ⟨(p1, p2) :: ra, rb, row ++ [(max p1 q1, min p2 q2)], rfl, HA'.out, (by first | exact (HT2.out w2 (Below.refl _ _)).1 rfl | exact (HT2.out w2 (Below.refl _ _)).1 trivial), by rw [List.append_assoc]; exact HR.out, below_drewN HB3.out _, ?_⟩
                rw [HROW.out, List.length_append, HMM.out]
                exact own_draw HO3.out _
            · have hc2 : ¬ c2 - 1 = 0 := by omega
              go_wp2_with fail
              go_quiet (fail)
              go_wp2_with fail
              go_roundg (((p1, p2) :: ra).length + rb.length)
              case measure => have := HG.out; simp only [List.length_cons] at *; omega
              case rel =>
                refine ⟨(p1, p2) :: ra, rb, row ++ [(max p1 q1, min p2 q2)], rfl, HA'.out, (HT2.out w2 (Below.refl _ _)).2, by rw [List.append_assoc]; exact HR.out, below_drewN HB3.out _, ?_⟩
                rw [HROW.out, List.length_append, HMM.out]
                exact own_draw HO3.out _
end Go.Proofs.Ytkldinppmnjmbaa
