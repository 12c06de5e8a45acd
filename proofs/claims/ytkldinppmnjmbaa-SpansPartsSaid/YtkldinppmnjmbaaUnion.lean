/-
  slices.Concat of two rows of spans; Union of the program.
  Conditions: none beyond what the slices read as.
-/
import Derived.Test.YtkldinppmnjmbaaNorm
import Derived.Laws.OwnMore
set_option linter.unusedVariables false
namespace Go.Proofs.Ytkldinppmnjmbaa
open Go.RowKit

/-- Nothing is appended to a row of the call's own: from a nil slice, whatever it says of its room. -/
theorem wpList_append_none5 {P : Program} {w : World} {ops : Array Oper} {rest : List Oper} {o : Oper} {a : Act} {Q : Exit → Act → World → Prop} (hgd : o.guard = none) (s x : Operand) (t : TypeId)
    (ho : o.op = .call { callee := .builtin .append, args := #[s, x], argTypes := #[t, t] })
    (base : Nat) (e : TypeId) (i : TypeInfo) (size : Nat) (ht : P.underlying t = some (.slice e)) (hi : P.info? e = some i)
    (v : Value) (n : Nat) (xs : List Value) (hs : a.eval s = v) (hown : w.ownsRow base e size v n xs) (c : Nat) (hx : a.eval x = .slice none 0 c)
    (h : wpList P ops Q rest (a.put o.dst v) w) : wpList P ops Q (o :: rest) a w := by
  refine wpList_plain hgd fun K hK => ?_
  have hrun : (Builtin.append_ #[t, t] o.type #[v, .slice none 0 c]).run P w = .ok v w := by
    rcases hown.2 with ⟨rfl, rfl⟩ | ⟨g, cap, cur, rfl, _, _, hnc, _⟩
    · simp [Builtin.append_, run_underlying ht, sizeOf, typeInfo, hi, Builtin.lenOf, Builtin.firstCells]
    · simp [Builtin.append_, run_underlying ht, sizeOf, typeInfo, hi, Builtin.lenOf, Builtin.firstCells, hnc, storeCells]
  unfold Oper.wp
  simp [execOp, ho, resolve, invoke, builtin, hs, hx, hrun, Result.andThen]
  exact hK _ _ h

/-- slices.Grow of a nil slice. -/
theorem grow_any (n : Nat) (hn : n ≤ 200000) (w : World) : Calls Try.prog 39 #[.slice none 0 0, .int .i64 n] w (RetO w.heap.size 45 [] w) := by
  obtain ⟨i0, hi, hz0, hz1, hz2⟩ := info_parts Try.infoSpan
  rcases Nat.eq_zero_or_pos n with h | h
  · subst h
    refine (Any8.slices_Grow_room Try.grow5 none 0 0 0 w (by omega) (by omega) (by omega) (by omega)).mono ?_
    rintro e w' ⟨rfl, rfl⟩
    exact ⟨_, rfl, World.ownsRow_nil _ _ _ _, Below.refl _ _⟩
  · refine (Any8.slices_Grow_grow Try.grow5 i0 _ hi hz0 (by rw [hz1]; decide) none 0 0 n [] w (by omega) (by omega) (by rw [hz2]; omega) (by omega) (by simp) (fun _ => rfl) (by simp)).mono ?_
    rintro e w' ⟨rfl, rfl⟩
    have hcap := grownCap_ge w (0 + n) 0 45
    refine ⟨_, rfl, ?_, ?_⟩
    · refine World.ownsRow_made (w := w.drew) _ _ (Nat.le_refl _) (grownCap_le_maxLen w _ _ _ (by unfold maxLen; omega)) ?_
      simp only [Array.size_append, Builtin.zeroCells, Array.size_map, Array.size_range]
      show 0 + (0 + n - 0) * 2 + (grownCap w (0 + n) 0 45 - (0 + n)) * 2 = grownCap w (0 + n) 0 45 * 2
      omega
    · exact ((Below.refl _ w).drew).alloc (Nat.le_refl _) _

def catT (a b : List Sp) : Nat → List Sp
  | 0 => []
  | 1 => a
  | _ => a ++ b
def CatRel (a b : List Sp) (wr : World) (g : Nat) (s6 s27 : Value) (w2 : World) : Prop :=
  ∃ i : Nat, i ≤ 2 ∧ g = 2 - i ∧ s27 = .int .i64 i ∧ Below wr.heap.size wr w2 ∧ w2.ownsRow wr.heap.size 45 2 s6 (catT a b i).length (spansCells (catT a b i))
/-- The cells of a slice that reads as spans, in a later world. -/
theorem news_of {W W2 : World} {p : Addr} {n c : Nat} {ps : List Sp} (h : SpansAt W (.slice (some p) n c) ps) (hb : Below W.heap.size W W2) : ∀ j u, (spansCells ps)[j]? = some u → W2.cell? (p.add j) = some u := by
  intro j u hj
  obtain ⟨A, c', h1, h2, h3, h4, h5⟩ := h.keep hb
  injection h1 with e1 e2 e3
  have hp : 0 < ps.length := by
    have := (List.getElem?_eq_some_iff.1 hj).1
    rw [spansCells_length] at this; omega
  obtain ⟨b, off, e, hbl, hcell⟩ := h5 hp
  rw [e] at e1
  cases e1
  rw [Addr.add_lit]
  exact spansCells_of hcell j u hj
theorem spans_empty {W : World} {n c : Nat} {ps : List Sp} (h : SpansAt W (.slice none n c) ps) : n = 0 ∧ ps = [] := by
  obtain ⟨A, c', h1, h2, h3, h4, h5⟩ := h
  injection h1 with e1 e2 e3
  subst e1 e2
  rcases Nat.eq_zero_or_pos ps.length with h | h
  · exact ⟨h, List.eq_nil_of_length_eq_zero h⟩
  · obtain ⟨b, off, e, _⟩ := h5 h; cases e

set_option maxRecDepth 100000 in
set_option maxHeartbeats 4000000 in
theorem concat_any (x y : Value) (a b : List Sp) (B : Nat) (w : World) (hx : SpansAt w x a) (hy : SpansAt w y b) (hB : B < w.heap.size) (c0 : w.cell? ⟨B, 0, none⟩ = some x) (c1 : w.cell? ⟨B, 1, none⟩ = some y) (hl : a.length + b.length ≤ 100000) :
    Calls Try.prog 33 #[.slice (some ⟨B, 0, none⟩) 2 2] w (RetS (a ++ b) w) := by
  obtain ⟨i0, hi, hz0, hz1, hz2⟩ := info_parts Try.infoSpan
  have HX := Lib.hid hx
  have HY := Lib.hid hy
  obtain ⟨A1, k1, rfl, a1, a2, a3, a4⟩ := hx
  obtain ⟨A2, k2, rfl, b1, b2, b3, b4⟩ := hy
  have HA := Lib.hid a4
  have HB := Lib.hid b4
  generalize hna : a.length = m at *
  generalize hnb : b.length = n at *
  have HNA := Lib.hid hna
  have HNB := Lib.hid hnb
  have HG := Lib.hid (fun W => grow_any (m + n) (by omega) W)
  clear a4 b4 hna hnb
  go_enter Try.func33, Try.ntmps33
  go_wp2_with fail
  go_loopg [3, 5, 11] 2 (fun g s3 _ s11 wr => wr = w ∧ ((g = 2 ∧ s11 = .int .i64 0 ∧ s3 = .int .i64 0) ∨ (g = 1 ∧ s11 = .int .i64 1 ∧ s3 = .int .i64 m) ∨ (g = 0 ∧ s11 = .int .i64 2 ∧ s3 = .int .i64 ((m + n : Nat) : Int))))
  case atStart => exact ⟨rfl, .inl ⟨rfl, rfl, rfl⟩⟩
  case round =>
    obtain ⟨hw, h | h | h⟩ := hrel
    · obtain ⟨rfl, rfl, rfl⟩ := h
      subst hw
      go_wp2_with fail
      go_roundg 1
      case measure => decide
      case rel => exact ⟨rfl, .inr (.inl ⟨rfl, rfl, by go_num⟩)⟩
    · obtain ⟨rfl, rfl, rfl⟩ := h
      subst hw
      go_wp2_with fail
      go_roundg 0
      case measure => decide
      case rel => exact ⟨rfl, .inr (.inr ⟨rfl, rfl, by go_num⟩)⟩
    · obtain ⟨rfl, rfl, rfl⟩ := h
      have hw2 := hw.symm
      subst hw2
      clear hw
      generalize hq : m + n = q at *
      go_wp2_with fail
      refine (HG.out _).mono ?_
      rintro e w1 ⟨v1, rfl, hown, hb⟩
      have HB1 := Lib.hid hb
      have HO1 := Lib.hid hown
      have hw1 := hb.size
      have c0' := (hb.cell (p := ⟨B, 0, none⟩) hB).trans c0
      have c1' := (hb.cell (p := ⟨B, 1, none⟩) hB).trans c1
      clear hb hown
      go_wp2_with fail
      go_loopg [6, 8, 27] 2 (fun g s6 _ s27 wr => CatRel a b w g s6 s27 wr)
      case atStart => exact ⟨0, by decide, rfl, rfl, HB1.out, HO1.out⟩
      case round =>
        obtain ⟨i, hi2, hg, rfl, hb2, hown2⟩ := hrel
        have HB2 := Lib.hid hb2
        have HO2 := Lib.hid hown2
        have e0 := (hb2.cell (p := ⟨B, 0, none⟩) hB).trans c0
        have e1 := (hb2.cell (p := ⟨B, 1, none⟩) hB).trans c1
        clear hb2 hown2 c0' c1'
        rcases (by omega : i = 0 ∨ i = 1 ∨ i = 2) with rfl | rfl | rfl
        · have HLC := Lib.hid (show (catT a b 0).length + m ≤ 100000 by simp [catT]; omega)
          subst hg
          cases A1 with
          | none =>
            obtain ⟨rfl, hnil⟩ := spans_empty HX.out
            go_wp2_with (at_builtin; refine wpList_append_none5 rfl _ _ 24 rfl w.heap.size 45 i0 2 Try.underlying24 hi _ _ _ rfl HO2.out k1 rfl ?_)
            go_roundg 1
            case measure => decide
            case rel =>
              refine ⟨1, by decide, rfl, rfl, HB2.out, ?_⟩
              have h := HO2.out
              have e : catT a b 1 = catT a b 0 := by subst hnil; simp [catT]
              rw [e]
              exact h
          | some p =>
            have HNW := Lib.hid (news_of HX.out HB2.out)
            have HLN := Lib.hid (spansCells_length a)
            go_wp2_with (at_builtin; refine wpList_append_own _ rfl _ _ 24 rfl w.heap.size 45 i0 (.agg #[.int .i64 0, .int .i64 0]) 2 16 Try.underlying24 hi hz0 hz1 hz2 rfl (by decide) _ _ _ rfl HO2.out p m k1 (spansCells a) rfl ?c0 HNW.out (spansCells_one _) ?c3 ?c4 ?c5 ?_)
            case c0 => rw [HLN.out, HNA.out]
            case c3 => have := HLC.out; unfold maxLen; omega
            case c4 => have := HLC.out; omega
            case c5 => exact HB2.out.size
            intro v4 w4 hown4 hgrow _
            have HB4 := Lib.hid (HB2.out.trans (below_grown5 hgrow HB2.out.size (own_base5 HO2.out)))
            have HO4 := Lib.hid hown4
            clear hown4 hgrow
            go_wp2
            go_roundg 1
            case measure => decide
            case rel =>
              refine ⟨1, by decide, rfl, by go_num, HB4.out, ?_⟩
              have h := HO4.out
              have e : catT a b 1 = catT a b 0 ++ a := by simp [catT]
              rw [e, spansCells_append, List.length_append, HNA.out]
              exact h
        · have HLC := Lib.hid (show (catT a b 1).length + n ≤ 100000 by simp only [catT]; rw [HNA.out]; omega)
          subst hg
          cases A2 with
          | none =>
            obtain ⟨rfl, hnil⟩ := spans_empty HY.out
            go_wp2_with (at_builtin; refine wpList_append_none5 rfl _ _ 24 rfl w.heap.size 45 i0 2 Try.underlying24 hi _ _ _ rfl HO2.out k2 rfl ?_)
            go_roundg 0
            case measure => decide
            case rel =>
              refine ⟨2, by decide, rfl, rfl, HB2.out, ?_⟩
              have h := HO2.out
              have e : catT a b 2 = catT a b 1 := by subst hnil; simp [catT]
              rw [e]
              exact h
          | some p =>
            have HNW := Lib.hid (news_of HY.out HB2.out)
            have HLN := Lib.hid (spansCells_length b)
            go_wp2_with (at_builtin; refine wpList_append_own _ rfl _ _ 24 rfl w.heap.size 45 i0 (.agg #[.int .i64 0, .int .i64 0]) 2 16 Try.underlying24 hi hz0 hz1 hz2 rfl (by decide) _ _ _ rfl HO2.out p n k2 (spansCells b) rfl ?c0 HNW.out (spansCells_one _) ?c3 ?c4 ?c5 ?_)
            case c0 => rw [HLN.out, HNB.out]
            case c3 => have := HLC.out; unfold maxLen; omega
            case c4 => have := HLC.out; omega
            case c5 => exact HB2.out.size
            intro v4 w4 hown4 hgrow _
            have HB4 := Lib.hid (HB2.out.trans (below_grown5 hgrow HB2.out.size (own_base5 HO2.out)))
            have HO4 := Lib.hid hown4
            clear hown4 hgrow
            go_wp2
            go_roundg 0
            case measure => decide
            case rel =>
              refine ⟨2, by decide, rfl, by go_num, HB4.out, ?_⟩
              have h := HO4.out
              have e : catT a b 2 = catT a b 1 ++ b := by simp [catT]
              rw [e, spansCells_append, List.length_append, HNB.out]
              exact h
        · have HF := Lib.hid (spans_of_own HO2.out (by show (a ++ b).length ≤ 100000; have := HNA.out; have := HNB.out; simp; omega))
          go_wp2
          go_ret
          exact ⟨_, rfl, HF.out, HB2.out⟩

theorem union_any (x y : Value) (a b : List Sp) (w : World) (hx : SpansAt w x a) (hy : SpansAt w y b) (hl : a.length + b.length ≤ 100000) :
    Calls Try.prog 19 #[x, y] w (RetS (normT (a ++ b)) w) := by
  have hb0 : Below w.heap.size w (w.alloc (.cells #[x, y] 24)) := (Below.refl _ _).alloc (Nat.le_refl _) _
  have HC := Lib.hid (concat_any x y a b w.heap.size (w.alloc (.cells #[x, y] 24)) (hx.keep hb0) (hy.keep hb0) (by simp) (by simp) (by simp) hl)
  have HB := Lib.hid hb0
  clear hb0
  obtain ⟨A1, k1, rfl, _⟩ := hx
  obtain ⟨A2, k2, rfl, _⟩ := hy
  go_enter Try.func19, Try.ntmps19
  go_wp2_with fail
  refine HC.out.mono ?_
  rintro e w1 ⟨v1, rfl, hat1, hb1⟩
  have HN := Lib.hid (norm_any v1 (a ++ b) w1 hat1)
  have HB1 := Lib.hid (HB.out.trans (hb1.mono (by simp)))
  clear hat1 hb1
  go_wp2_with fail
  refine HN.out.mono ?_
  rintro e w2 ⟨v2, rfl, hat2, hb2⟩
  have HAT := Lib.hid hat2
  have HB2 := Lib.hid (HB1.out.trans (hb2.mono HB1.out.size))
  clear hat2 hb2
  go_wp2
  go_ret
  exact ⟨_, rfl, HAT.out, HB2.out⟩
end Go.Proofs.Ytkldinppmnjmbaa
