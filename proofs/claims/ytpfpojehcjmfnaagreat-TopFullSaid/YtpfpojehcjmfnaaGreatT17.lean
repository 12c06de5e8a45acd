/-
  Why wants don't go along the chain, of the program.
  Conditions: the slices read as places, as wants; the numbers are of their kinds.
-/
import Derived.Shelf.Spec.SlicesGrow
import Derived.Ground.Names8Prog
import Derived.Test.YtpfpojehcjmfnaaGreatProg
import Derived.Test.YtpfpojehcjmfnaaGreatT02
import Derived.Laws.OwnMore
import Derived.Test.YtpfpojehcjmfnaaGreatT09
import Derived.Test.YtpfpojehcjmfnaaGreatT13
import Derived.Test.YtpfpojehcjmfnaaGreatT12
import Derived.Test.YtpfpojehcjmfnaaGreatT03
import Derived.Test.YtpfpojehcjmfnaaGreatT15

/-
  DERIVED: THE SHELF's CONTRACTS AT THIS DUMP, IN PLAIN WORDS (tools/lay-plain.mjs out of 'TryShelf20gTryz.lean', which tools/lay-shelf.mjs wrote): THE SAME DECLARATIONS UNDER THE SAME NAMES: 'import', 'namespace', 'open', 'def', 'theorem' AND NOTHING ELSE: no command of the shelf's: FOR A HAND-IN. Each laying: the table of numbers ('.._ren') and one theorem, a field a fact of the dump's own or the kernel's comparison; each contract: ONE APPLICATION.
-/
namespace Go.Proofs
open Go.Shelf
def Tryz.grow5_ren : Go.Shelf.Ren := ⟨fun | 4 => 171 | n => n, fun | 22 => 23 | 25 => 52 | 3 => 3 | 4 => 4 | 9 => 9 | 20 => 20 | 0 => 0 | 2 => 3 | n => n, fun | n => n⟩
theorem Tryz.grow5 : Go.Proofs.Lays8.n4 Tryz.prog Tryz.grow5_ren := {
  mixed := by kernel_rfl
  f4 := ⟨Tryz.f171.name, by decide, Tryz.func171.trans (congrArg some (by kernel_rfl))⟩
  t0 := Tryz.underlying0
  a0 := Tryz.isAgg0
  z0 := Tryz.sizeOf0
  v0 := Tryz.zeroValue0
  t3 := Tryz.underlying3
  a3 := Tryz.isAgg3
  z3 := Tryz.sizeOf3
  v3 := Tryz.zeroValue3
  t4 := Tryz.underlying4
  a4 := Tryz.isAgg4
  z4 := Tryz.sizeOf4
  v4 := Tryz.zeroValue4
  t9 := Tryz.underlying9
  a9 := Tryz.isAgg9
  z9 := Tryz.sizeOf9
  v9 := Tryz.zeroValue9
  t20 := Tryz.underlying20
  a20 := Tryz.isAgg20
  z20 := Tryz.sizeOf20
  v20 := Tryz.zeroValue20
  t22 := Tryz.underlying23
  a22 := Tryz.isAgg23
  z22 := Tryz.sizeOf23
  v22 := Tryz.zeroValue23 }
end Go.Proofs

/-
  slices.Concat of two rows of wants.
  Conditions: none beyond what the slices read as.
-/
set_option linter.unusedVariables false
namespace Go.Proofs.YtpfpojehcjmfnaaGreat
open Go.RowKit

/-- Nothing is appended to a row of the call's own: from a nil slice, whatever it says of its room. -/
theorem wpList_append_none5 {P : Program} {w : World} {ops : Array Oper} {rest : List Oper} {o : Oper} {a : Act} {Q : Exit → Act → World → Prop} (hgd : o.guard = none) (s x : Operand) (t : TypeId)
    (ho : o.op = .call { callee := .builtin .append, args := #[s, x], argTypes := #[t, t] })
    (base : Nat) (e : TypeId) (i : TypeInfo) (size : Nat) (ht : P.underlying t = some (.slice e)) (hi : P.info? e = some i)
    (v : Value) (n : Nat) (xs : List Value) (hs : a.eval s = v) (hown : w.ownsRow base e size v n xs) (c : Nat) (hx : a.eval x = .slice none 0 c)
    (h : wpList P ops Q rest (a.put o.dst v) w) : wpList P ops Q (o :: rest) a w := by
  refine wpList_plain hgd fun K hK => ?_
  have hrun : (Builtin.append_ #[t, t] o.type #[v, .slice none 0 c]).run P w = .ok v w := by
    rcases hown.2 with ⟨rfl, rfl⟩ | ⟨g, cap, cur, rfl, _, _, hnc, _⟩
    · simp [Builtin.append_, run_underlying ht, sizeOf, typeInfo, hi, Builtin.lenOf, Builtin.firstCells]
    · simp [Builtin.append_, run_underlying ht, sizeOf, typeInfo, hi, Builtin.lenOf, Builtin.firstCells, hnc, storeCells]
  unfold Oper.wp
  simp [execOp, ho, resolve, invoke, builtin, hs, hx, hrun, Result.andThen]
  exact hK _ _ h

/-- slices.Grow of a nil slice. -/
theorem grow_any (n : Nat) (hn : n ≤ 200000) (w : World) : Calls Tryz.prog 171 #[.slice none 0 0, .int .i64 n] w (RetO w.heap.size 52 [] w) := by
  obtain ⟨i0, hi, hz0, hz1, hz2⟩ := info_parts Tryz.infoSpan
  rcases Nat.eq_zero_or_pos n with h | h
  · subst h
    refine (Any8.slices_Grow_room Tryz.grow5 none 0 0 0 w (by omega) (by omega) (by omega) (by omega)).mono ?_
    rintro e w' ⟨rfl, rfl⟩
    exact ⟨_, rfl, World.ownsRow_nil _ _ _ _, Below.refl _ _⟩
  · refine (Any8.slices_Grow_grow Tryz.grow5 i0 _ hi hz0 (by rw [hz1]; decide) none 0 0 n [] w (by omega) (by omega) (by rw [hz2]; omega) (by omega) (by simp) (fun _ => rfl) (by simp)).mono ?_
    rintro e w' ⟨rfl, rfl⟩
    have hcap := grownCap_ge w (0 + n) 0 52
    refine ⟨_, rfl, ?_, ?_⟩
    · refine World.ownsRow_made (w := w.drew) _ _ (Nat.le_refl _) (grownCap_le_maxLen w _ _ _ (by unfold maxLen; omega)) ?_
      simp only [Array.size_append, Builtin.zeroCells, Array.size_map, Array.size_range]
      show 0 + (0 + n - 0) * 2 + (grownCap w (0 + n) 0 52 - (0 + n)) * 2 = grownCap w (0 + n) 0 52 * 2
      omega
    · exact ((Below.refl _ w).drew).alloc (Nat.le_refl _) _

def catT (a b : List Sp) : Nat → List Sp
  | 0 => []
  | 1 => a
  | _ => a ++ b
def CatRel (a b : List Sp) (wr : World) (g : Nat) (s6 s27 : Value) (w2 : World) : Prop :=
  ∃ i : Nat, i ≤ 2 ∧ g = 2 - i ∧ s27 = .int .i64 i ∧ Below wr.heap.size wr w2 ∧ w2.ownsRow wr.heap.size 52 2 s6 (catT a b i).length (spansCells (catT a b i))
/-- The cells of a slice that reads as spans, in a later world. -/
theorem news_of {W W2 : World} {p : Addr} {n c : Nat} {ps : List Sp} (h : SpansAt W (.slice (some p) n c) ps) (hb : Below W.heap.size W W2) : ∀ j u, (spansCells ps)[j]? = some u → W2.cell? (p.add j) = some u := by
  intro j u hj
  obtain ⟨A, c', h1, h2, h3, h4, h5⟩ := h.keep hb
  injection h1 with e1 e2 e3
  have hp : 0 < ps.length := by
    have := (List.getElem?_eq_some_iff.1 hj).1
    rw [spansCells_length] at this; omega
  obtain ⟨b, off, e, hbl, hcell⟩ := h5 hp
  rw [e] at e1
  cases e1
  rw [Addr.add_lit]
  exact spansCells_of hcell j u hj
theorem spans_empty {W : World} {n c : Nat} {ps : List Sp} (h : SpansAt W (.slice none n c) ps) : n = 0 ∧ ps = [] := by
  obtain ⟨A, c', h1, h2, h3, h4, h5⟩ := h
  injection h1 with e1 e2 e3
  subst e1 e2
  rcases Nat.eq_zero_or_pos ps.length with h | h
  · exact ⟨h, List.eq_nil_of_length_eq_zero h⟩
  · obtain ⟨b, off, e, _⟩ := h5 h; cases e

set_option maxRecDepth 100000 in
set_option maxHeartbeats 4000000 in
theorem concat_any (x y : Value) (a b : List Sp) (B : Nat) (w : World) (hx : SpansAt w x a) (hy : SpansAt w y b) (hB : B < w.heap.size) (c0 : w.cell? ⟨B, 0, none⟩ = some x) (c1 : w.cell? ⟨B, 1, none⟩ = some y) (hl : a.length + b.length ≤ 100000) :
    Calls Tryz.prog 131 #[.slice (some ⟨B, 0, none⟩) 2 2] w (RetS (a ++ b) w) := by
  obtain ⟨i0, hi, hz0, hz1, hz2⟩ := info_parts Tryz.infoSpan
  have HX := Lib.hid hx
  have HY := Lib.hid hy
  obtain ⟨A1, k1, rfl, a1, a2, a3, a4⟩ := hx
  obtain ⟨A2, k2, rfl, b1, b2, b3, b4⟩ := hy
  have HA := Lib.hid a4
  have HB := Lib.hid b4
  generalize hna : a.length = m at *
  generalize hnb : b.length = n at *
  have HNA := Lib.hid hna
  have HNB := Lib.hid hnb
  have HG := Lib.hid (fun W => grow_any (m + n) (by omega) W)
  clear a4 b4 hna hnb
  go_enter Tryz.func131, Tryz.ntmps131
  go_wp2_with fail
  go_loopg [3, 5, 11] 2 (fun g s3 _ s11 wr => wr = w ∧ ((g = 2 ∧ s11 = .int .i64 0 ∧ s3 = .int .i64 0) ∨ (g = 1 ∧ s11 = .int .i64 1 ∧ s3 = .int .i64 m) ∨ (g = 0 ∧ s11 = .int .i64 2 ∧ s3 = .int .i64 ((m + n : Nat) : Int))))
  case atStart => exact ⟨rfl, .inl ⟨rfl, rfl, rfl⟩⟩
  case round =>
    obtain ⟨hw, h | h | h⟩ := hrel
    · obtain ⟨rfl, rfl, rfl⟩ := h
      subst hw
      go_wp2_with fail
      go_roundg 1
      case measure => decide
      case rel => exact ⟨rfl, .inr (.inl ⟨rfl, rfl, by go_num⟩)⟩
    · obtain ⟨rfl, rfl, rfl⟩ := h
      subst hw
      go_wp2_with fail
      go_roundg 0
      case measure => decide
      case rel => exact ⟨rfl, .inr (.inr ⟨rfl, rfl, by go_num⟩)⟩
    · obtain ⟨rfl, rfl, rfl⟩ := h
      have hw2 := hw.symm
      subst hw2
      clear hw
      generalize hq : m + n = q at *
      go_wp2_with fail
      refine (HG.out _).mono ?_
      rintro e w1 ⟨v1, rfl, hown, hb⟩
      have HB1 := Lib.hid hb
      have HO1 := Lib.hid hown
      have hw1 := hb.size
      have c0' := (hb.cell (p := ⟨B, 0, none⟩) hB).trans c0
      have c1' := (hb.cell (p := ⟨B, 1, none⟩) hB).trans c1
      clear hb hown
      go_wp2_with fail
      go_loopg [6, 8, 27] 2 (fun g s6 _ s27 wr => CatRel a b w g s6 s27 wr)
      case atStart => exact ⟨0, by decide, rfl, rfl, HB1.out, HO1.out⟩
      case round =>
        obtain ⟨i, hi2, hg, rfl, hb2, hown2⟩ := hrel
        have HB2 := Lib.hid hb2
        have HO2 := Lib.hid hown2
        have e0 := (hb2.cell (p := ⟨B, 0, none⟩) hB).trans c0
        have e1 := (hb2.cell (p := ⟨B, 1, none⟩) hB).trans c1
        clear hb2 hown2 c0' c1'
        rcases (by omega : i = 0 ∨ i = 1 ∨ i = 2) with rfl | rfl | rfl
        · have HLC := Lib.hid (show (catT a b 0).length + m ≤ 100000 by simp [catT]; omega)
          subst hg
          cases A1 with
          | none =>
            obtain ⟨rfl, hnil⟩ := spans_empty HX.out
            go_wp2_with (at_builtin; refine wpList_append_none5 rfl _ _ 23 rfl w.heap.size 52 i0 2 Tryz.underlying23 hi _ _ _ rfl HO2.out k1 rfl ?_)
            go_roundg 1
            case measure => decide
            case rel =>
              refine ⟨1, by decide, rfl, rfl, HB2.out, ?_⟩
              have h := HO2.out
              have e : catT a b 1 = catT a b 0 := by subst hnil; simp [catT]
              rw [e]
              exact h
          | some p =>
            have HNW := Lib.hid (news_of HX.out HB2.out)
            have HLN := Lib.hid (spansCells_length a)
            go_wp2_with (at_builtin; refine wpList_append_own _ rfl _ _ 23 rfl w.heap.size 52 i0 (.agg #[.int .i64 0, .int .i64 0]) 2 16 Tryz.underlying23 hi hz0 hz1 hz2 rfl (by decide) _ _ _ rfl HO2.out p m k1 (spansCells a) rfl ?c0 HNW.out (spansCells_one _) ?c3 ?c4 ?c5 ?_)
            case c0 => rw [HLN.out, HNA.out]
            case c3 => have := HLC.out; unfold maxLen; omega
            case c4 => have := HLC.out; omega
            case c5 => exact HB2.out.size
            intro v4 w4 hown4 hgrow _
            have HB4 := Lib.hid (HB2.out.trans (below_grown5 hgrow HB2.out.size (own_base5 HO2.out)))
            have HO4 := Lib.hid hown4
            clear hown4 hgrow
            go_wp2
            go_roundg 1
            case measure => decide
            case rel =>
              refine ⟨1, by decide, rfl, by go_num, HB4.out, ?_⟩
              have h := HO4.out
              have e : catT a b 1 = catT a b 0 ++ a := by simp [catT]
              rw [e, spansCells_append, List.length_append, HNA.out]
              exact h
        · have HLC := Lib.hid (show (catT a b 1).length + n ≤ 100000 by simp only [catT]; rw [HNA.out]; omega)
          subst hg
          cases A2 with
          | none =>
            obtain ⟨rfl, hnil⟩ := spans_empty HY.out
            go_wp2_with (at_builtin; refine wpList_append_none5 rfl _ _ 23 rfl w.heap.size 52 i0 2 Tryz.underlying23 hi _ _ _ rfl HO2.out k2 rfl ?_)
            go_roundg 0
            case measure => decide
            case rel =>
              refine ⟨2, by decide, rfl, rfl, HB2.out, ?_⟩
              have h := HO2.out
              have e : catT a b 2 = catT a b 1 := by subst hnil; simp [catT]
              rw [e]
              exact h
          | some p =>
            have HNW := Lib.hid (news_of HY.out HB2.out)
            have HLN := Lib.hid (spansCells_length b)
            go_wp2_with (at_builtin; refine wpList_append_own _ rfl _ _ 23 rfl w.heap.size 52 i0 (.agg #[.int .i64 0, .int .i64 0]) 2 16 Tryz.underlying23 hi hz0 hz1 hz2 rfl (by decide) _ _ _ rfl HO2.out p n k2 (spansCells b) rfl ?c0 HNW.out (spansCells_one _) ?c3 ?c4 ?c5 ?_)
            case c0 => rw [HLN.out, HNB.out]
            case c3 => have := HLC.out; unfold maxLen; omega
            case c4 => have := HLC.out; omega
            case c5 => exact HB2.out.size
            intro v4 w4 hown4 hgrow _
            have HB4 := Lib.hid (HB2.out.trans (below_grown5 hgrow HB2.out.size (own_base5 HO2.out)))
            have HO4 := Lib.hid hown4
            clear hown4 hgrow
            go_wp2
            go_roundg 0
            case measure => decide
            case rel =>
              refine ⟨2, by decide, rfl, by go_num, HB4.out, ?_⟩
              have h := HO4.out
              have e : catT a b 2 = catT a b 1 ++ b := by simp [catT]
              rw [e, spansCells_append, List.length_append, HNB.out]
              exact h
        · have HF := Lib.hid (spans_of_own HO2.out (by show (a ++ b).length ≤ 2000000; have := HNA.out; have := HNB.out; simp; omega))
          go_wp2
          go_ret
          exact ⟨_, rfl, HF.out, HB2.out⟩
end Go.Proofs.YtpfpojehcjmfnaaGreat

/-
  A sum of the program's and of the document's.
  Conditions: the numbers are ints.
-/
set_option linter.unusedVariables false
namespace Go.Proofs.YtpfpojehcjmfnaaGreat
open Go.RowKit

/-- A sum as the program tells it, and as the document tells it. -/
def sumV (o : Option Int) : Int := o.getD 0
def sumE (o : Option Int) : Int := if o.isSome then 0 else 5
theorem add_any (a b : Int) (a1 : -9223372036854775808 ≤ a) (a2 : a ≤ 9223372036854775807) (b1 : -9223372036854775808 ≤ b) (b2 : b ≤ 9223372036854775807) (w : World) :
    Calls Tryz.prog 107 #[.int .i64 a, .int .i64 b] w (Ret (.tuple #[.int .i64 (sumV (addO a b)), .int .i64 (sumE (addO a b))]) w) := by
  by_cases h : -9223372036854775808 ≤ a + b ∧ a + b ≤ 9223372036854775807
  · rw [show addO a b = some (a + b) from if_pos h]
    obtain ⟨h1, h2⟩ := h
    show Calls _ _ _ _ (Ret (.tuple #[.int .i64 (a + b), .int .i64 0]) w)
    have ht : (!(decide (a + b < a) == decide (b < 0))) = false := by
      by_cases hb : b < 0 <;> simp [hb] <;> omega
    go_enter Tryz.func107, Tryz.ntmps107
    go_wp2
    go_returns
    exact ⟨rfl, rfl⟩
  · rw [show addO a b = none from if_neg h]
    show Calls _ _ _ _ (Ret (.tuple #[.int .i64 0, .int .i64 5]) w)
    have ht : (!(decide (wrap64 (a + b) < a) == decide (b < 0))) = true := by
      unfold wrap64
      by_cases hb : b < 0 <;> simp [hb] <;> omega
    generalize hs : wrap64 (a + b) = s at *
    clear h
    go_enter Tryz.func107, Tryz.ntmps107
    go_wp2
    go_returns
    exact ⟨rfl, rfl⟩
theorem addO_in {a b t : Int} (h : addO a b = some t) : -9223372036854775808 ≤ t ∧ t ≤ 9223372036854775807 := by
  unfold addO at h
  split at h
  · cases h; assumption
  · cases h
end Go.Proofs.YtpfpojehcjmfnaaGreat

/-
  Total of the program and of the document; two slices that read alike.
  Conditions: the slices read as wants of ints.
-/
set_option linter.unusedVariables false
namespace Go.Proofs.YtpfpojehcjmfnaaGreat
open Go.RowKit

def TotRel (n : Nat) (ps : List Sp) (R : Option Int) (w : World) (gg : Nat) (s4 s11 : Value) (wr : World) : Prop :=
  ∃ (i : Nat) (t : Int), i ≤ n ∧ gg = n - i ∧ s11 = .int .i64 i ∧ s4 = .int .i64 t ∧ Below w.heap.size w wr ∧ totL t (ps.drop i) = R ∧ -9223372036854775808 ≤ t ∧ t ≤ 9223372036854775807

set_option maxRecDepth 100000 in
set_option maxHeartbeats 2000000 in
theorem total_any (v : Value) (ps : List Sp) (w : World) (h : SpansAt w v ps) (hi : IntsS ps) :
    Calls Tryz.prog 59 #[v] w (RetB (.tuple #[.int .i64 (sumV (totT ps)), .int .i64 (sumE (totT ps))]) w) := by
  obtain ⟨A, c, rfl, hc1, hlen, hc2, hat⟩ := h
  have HAT := Lib.hid hat
  have HI := Lib.hid hi
  obtain ⟨R, hR⟩ : ∃ R, totT ps = R := ⟨_, rfl⟩
  have HR := Lib.hid hR
  rw [hR]
  generalize hn : ps.length = n at *
  have HN := Lib.hid hn
  clear hat hn hR hi
  go_enter Tryz.func59, Tryz.ntmps59
  go_wp2_with fail
  go_loopg [4, 6, 7, 8, 11] n (fun gg s4 _ _ _ s11 wr => TotRel n ps R w gg s4 s11 wr)
  case atStart => exact ⟨0, 0, Nat.zero_le _, by omega, rfl, rfl, Below.refl _ _, HR.out, by decide, by decide⟩
  case round =>
    obtain ⟨i, t, hin, hgg, rfl, rfl, hbw, htot, ht1, ht2⟩ := hrel
    have HG := Lib.hid hgg
    have HB := Lib.hid hbw
    have HT := Lib.hid htot
    have HB1 := Lib.hid (And.intro ht1 ht2)
    have hsz := hbw.size
    clear hgg hbw htot
    by_cases hlt : i < n
    · have hltz : (i : Int) < (n : Int) := by omega
      obtain ⟨b, off, hA, hbl, hcell⟩ := HAT.out (by omega)
      subst hA
      obtain ⟨y, hy⟩ := ex_at (xs := ps) (k := i) (by rw [HN.out]; exact hlt)
      obtain ⟨c1, c2⟩ := (hcell i y hy).keep HB.out hbl
      obtain ⟨_, b1, b2⟩ := HI.out.at_ hy
      have HY := Lib.hid (drop_of hy)
      have hadd := fun W => add_any t y.2 ht1 ht2 b1 b2 W
      cases ho : addO t y.2 with
      | none =>
        rw [ho] at hadd
        have HADD : Hid (∀ W, Calls Tryz.prog 107 #[.int .i64 t, .int .i64 y.2] W (Ret (.tuple #[.int .i64 0, .int .i64 5]) W)) := hadd
        have HRN : Hid (R = none) := by
          have := HT.out
          rw [HY.out, totL_none ho] at this
          exact this.symm
        obtain ⟨y1, y2⟩ := y
        simp only at c1 c2 HADD
        clear hcell hy hadd ho b1 b2 ht1 ht2
        go_wp2_with (go_at_call 107; refine (HADD.out _).mono ?_; rintro e w' ⟨rfl, rfl⟩)
        go_returns
        exact ⟨by rw [HRN.out]; rfl, HB.out.alloc hsz _⟩
      | some t' =>
        rw [ho] at hadd
        have HADD : Hid (∀ W, Calls Tryz.prog 107 #[.int .i64 t, .int .i64 y.2] W (Ret (.tuple #[.int .i64 t', .int .i64 0]) W)) := hadd
        have HRN : Hid (totL t' (ps.drop (i + 1)) = R) := by
          have := HT.out
          rw [HY.out, totL_some ho] at this
          exact this
        have HTI := Lib.hid (addO_in ho)
        obtain ⟨y1, y2⟩ := y
        simp only at c1 c2 HADD
        clear hcell hy hadd ho b1 b2 ht1 ht2
        go_wp2_with (go_at_call 107; refine (HADD.out _).mono ?_; rintro e w' ⟨rfl, rfl⟩)
        go_roundg (n - (i + 1))
        case measure => have := HG.out; omega
        case rel => exact ⟨i + 1, t', by omega, rfl, by go_num, rfl, HB.out.alloc hsz _, HRN.out, HTI.out.1, HTI.out.2⟩
    · have hin' : i = n := by omega
      subst hin'
      have hltz : ¬ (i : Int) < (i : Int) := by omega
      have HRN : Hid (R = some t) := by
        have := HT.out
        rw [List.drop_eq_nil_of_le (by rw [HN.out]; exact Nat.le_refl _)] at this
        exact this.symm
      clear ht1 ht2
      go_wp2
      go_returns
      exact ⟨by rw [HRN.out]; rfl, HB.out⟩

end Go.Proofs.YtpfpojehcjmfnaaGreat

/-
  Why wants don't go along the chain, of the program.
  Conditions: the slices read as places, as wants; the numbers are of their kinds.
-/
set_option linter.unusedVariables false
set_option linter.unusedSimpArgs false
namespace Go.Proofs.YtpfpojehcjmfnaaGreat
open Go.RowKit

/-- Why wants don't go along the chain, as an answer. -/
def RetWhyC (f : Int) (m : Nat) (l : List Pl) (ws : List Sp) (w : World) (e : Ending) (w' : World) : Prop := ∃ E : Int, e = .returned (.int .i64 E) ∧ Why19 f m l ws E ∧ Below w.heap.size w w'

set_option maxRecDepth 100000 in
set_option maxHeartbeats 8000000 in
theorem chCheck_any (f : Int) (m : Nat) (v : Value) (l : List Pl) (vw : Value) (ws : List Sp) (w : World) (h : PlsAt w v l) (hL : LightL l) (hw : SpansAt w vw ws) (hi : IntsS ws) (hm : m < 4294967296) (hl : l.length + ws.length ≤ 1000) :
    Calls Tryz.prog 82 #[planA f m v, vw] w (RetWhyC f m l ws w) := by
  have mixed : Tryz.prog.follows .mixedOrders = true := by kernel_rfl
  have HPC := Lib.hid (fun w h => planCheck_any f m v l w h hL.wide hm)
  have HOC := Lib.hid (fun w h => check_any f vw ws w h hi)
  have HWA0 := Lib.hid (fun w h => wants_any f m v l w h (by omega))
  have HSP := Lib.hid (fun w h => splits_any f m v l w h (by omega))
  have HFR := Lib.hid (fun (hr : Right f m l) w h => free_any f m v l w h hL (shares_of hr.place hr.f64) hm (by have := hr.f2; omega) hr.f64)
  have HTO := Lib.hid (fun w h => total_any vw ws w h hi)
  have HH := Lib.hid h
  have HW0 := Lib.hid hw
  have HLB : Hid ((wantsT l).length + ws.length ≤ 100000) := Lib.hid (by rw [wantsT_length]; omega)
  have HIS := Lib.hid hi
  unfold planA at HPC HWA0 HSP HFR
  obtain ⟨A, c, rfl, _⟩ := id hw
  obtain ⟨n, hn⟩ : ∃ n, ws.length = n := ⟨_, rfl⟩
  have HN := Lib.hid hn
  rw [hn] at HW0 HOC HTO ⊢
  obtain ⟨w1, P, hw1, hP, hPl, hb1, hbox⟩ := box_any w #[.int .i64 f, .int .u32 m, v] 26
  have HB1 := Lib.hid hb1
  have HBOX := Lib.hid hbox
  obtain ⟨r0, r1, r2⟩ := three_heads hbox
  clear h hL hw hi hm hb1 hbox hn
  unfold planA
  go_enter Tryz.func82, Tryz.ntmps82
  go_wp2_with fail
  refine (HPC.out _ (HH.out.keep HB1.out)).mono ?_
  rintro e w2 ⟨E1, rfl, hE1, hiff, hb2⟩
  have HB2 := Lib.hid (HB1.out.trans (hb2.mono HB1.out.size))
  have HBX2 := Lib.hid (keep_block HBOX.out hb2)
  clear hb2 r0 r1 r2 hw1 hP
  rcases hE1 with rfl | rfl
  · have HR := Lib.hid (hiff.1 rfl)
    obtain ⟨r0, r1, r2⟩ := three_heads HBX2.out
    obtain ⟨E2, hE2⟩ : ∃ E2, chkT f ws = E2 := ⟨_, rfl⟩
    have HOC2 := Lib.hid (HOC.out _ (HW0.out.keep HB2.out))
    rw [hE2] at HOC2
    have HE2 := Lib.hid hE2
    clear hiff hE2 HOC
    go_wp2_with fail
    refine HOC2.out.mono ?_
    rintro e w3 ⟨rfl, hb3⟩
    have HB3 := Lib.hid (HB2.out.trans (hb3.mono HB2.out.size))
    have HBX3 := Lib.hid (keep_block HBX2.out hb3)
    clear hb3 r0 r1 r2
    by_cases he : E2 = 0
    · subst he
      obtain ⟨E3, hE3⟩ : ∃ E3, chkT f (wantsT l ++ ws) = E3 := ⟨_, rfl⟩
      have HE3 := Lib.hid hE3
      have HE3V : Hid (E3 = if anyB l ws = true then 11 else 0) := Lib.hid (by rw [← hE3]; exact chk_both HR.out HE2.out)
      have HII : Hid (IntsS (wantsT l ++ ws)) := Lib.hid fun s hs => by
        rcases List.mem_append.1 hs with hs | hs
        · obtain ⟨x, hx, rfl⟩ := List.mem_map.1 hs
          have h1 := isU_range (HR.out.place x hx).unit
          have h2 := (HR.out.place x hx).s1
          have h3 := (HR.out.place x hx).s2
          have h4 := HR.out.f64
          exact ⟨by show _ ≤ x.u ∧ x.u ≤ _; omega, by show _ ≤ x.s ∧ x.s ≤ _; omega⟩
        · exact HIS.out s hs
      have HS : Hid (∀ W', Below w3.heap.size w3 W' → W'.cell? ⟨P, 0, none⟩ = some (.int .i64 f) ∧ W'.cell? ⟨P, 1, none⟩ = some (.int .u32 m) ∧ W'.cell? ⟨P, 2, none⟩ = some v) := Lib.hid fun W' hb => three_heads (keep_block HBX3.out hb)
      have HWA : Hid (∀ W', Below w3.heap.size w3 W' → Calls Tryz.prog 53 #[.agg #[.int .i64 f, .int .u32 m, v]] W' (RetS (wantsT l) W')) := Lib.hid fun W' hb => HWA0.out _ (HH.out.keep (HB3.out.trans (hb.mono HB3.out.size)))
      have HW : Hid (SpansAt w3 (.slice A n c) ws) := Lib.hid (HW0.out.keep HB3.out)
      have HK2 := Lib.hid (Below.refl w3.heap.size w3)
      have hk0 := HK2.out.drew
      clear hE3 HWA0
      go_wp2_with fail
      as_aux_lemma =>
        refine wp_region_held_drew (S := fun w' => w'.cell? ⟨P, 0, none⟩ = some (.int .i64 f) ∧ w'.cell? ⟨P, 1, none⟩ = some (.int .u32 m) ∧ w'.cell? ⟨P, 2, none⟩ = some (v)) (by kernel_rfl) ?_ (fun hHeld => ?_)
        · exact HS.out _ HK2.out.drew
        refine wpAnyH_take (i := 0) (oi := ⟨some 22, _, _, _, _, _⟩) (v := ?_) rfl (by kernel_rfl) (by kernel_rfl) (by kernel_rfl) (fun _ _ _ h => h) (Or.inl ⟨by kernel_rfl, ?_⟩) (by assumption) ?_
        rotate_left
        · (intro w hSw; (try dsimp only at hSw); go_simp; try with_reducible rfl)
        (try simp only [Act.put, List.setIfInBounds_toArray, List.set_cons_zero, List.set_cons_succ])
        refine wpAnyH_take (i := 1) (oi := ⟨some 23, _, _, _, _, _⟩) (v := ?_) rfl (by kernel_rfl) (by kernel_rfl) (by kernel_rfl) (fun _ _ _ h => h) (Or.inl ⟨by kernel_rfl, ?_⟩) (by assumption) ?_
        rotate_left
        · (intro w hSw; (try dsimp only at hSw); go_simp; try with_reducible rfl)
        (try simp only [Act.put, List.setIfInBounds_toArray, List.set_cons_zero, List.set_cons_succ])
        refine wpAnyH_take (i := 2) (oi := ⟨some 24, _, _, _, _, _⟩) (v := ?_) rfl (by kernel_rfl) (by kernel_rfl) (by kernel_rfl) (fun _ _ _ h => h) (Or.inl ⟨by kernel_rfl, ?_⟩) (by assumption) ?_
        rotate_left
        · (intro w hSw; (try dsimp only at hSw); go_simp; try with_reducible rfl)
        (try simp only [Act.put, List.setIfInBounds_toArray, List.set_cons_zero, List.set_cons_succ])
        refine wpAnyH_take (i := 4) (oi := ⟨some 26, _, _, _, _, _⟩) (v := ?_) rfl (by kernel_rfl) (by kernel_rfl) (by kernel_rfl) (fun _ _ _ h => h) (Or.inl ⟨by kernel_rfl, ?_⟩) (by assumption) ?_
        rotate_left
        · (intro w hSw; (try dsimp only at hSw); go_simp; try with_reducible rfl)
        (try simp only [Act.put, List.setIfInBounds_toArray, List.set_cons_zero, List.set_cons_succ])
        refine wpAnyH_ready (rs := [3]) (by kernel_rfl) (by simp) ?_
        refine AllReadyH.cons (o := ⟨some 25, _, _, _, _, _⟩) rfl (fun K hK => ?_) AllReadyH.nil
        rw [if_pos (by kernel_rfl)]
        go_simp
        go_at_call 53; refine (HWA.out _ hk0).mono ?_; rintro en wx1 ⟨va, rfl, hva, hx1⟩
        have hk1 := hk0.trans (hx1.mono hk0.size)
        obtain ⟨A1, c1, rfl, _⟩ := id hva
        obtain ⟨n1, hn1⟩ : ∃ n1, (wantsT l).length = n1 := ⟨_, rfl⟩
        rw [hn1] at hva
        rw [hn1]
        refine hK.out _ _ ?_ (fun hHeld => ?_)
        · exact HS.out _ hk1
        clear hK K
        (try simp only [Act.put, List.setIfInBounds_toArray, List.set_cons_zero, List.set_cons_succ])
        refine wpAnyH_ready (rs := [5]) (by kernel_rfl) (by simp) ?_
        refine AllReadyH.cons (o := ⟨some 27, _, _, _, _, _⟩) rfl (fun K hK => ?_) AllReadyH.nil
        rw [if_pos (by kernel_rfl)]
        go_simp
        obtain ⟨wx2, B, hw2, hB2, hBl, hx2, hbx⟩ := box_any wx1 #[.slice A1 n1 c1, .slice A n c] 23
        rw [hw2, hB2]
        have hk2 := hk1.trans (hx2.mono hk1.size)
        refine hK.out _ _ ?_ (fun hHeld => ?_)
        · exact HS.out _ hk2
        clear hK K
        (try simp only [Act.put, List.setIfInBounds_toArray, List.set_cons_zero, List.set_cons_succ])
        clear hw2 hB2
        refine wpAnyH_ready (rs := [6]) (by kernel_rfl) (by simp) ?_
        refine AllReadyH.cons (o := ⟨some 28, _, _, _, _, _⟩) rfl (fun K hK => ?_) AllReadyH.nil
        rw [if_pos (by kernel_rfl)]
        go_simp
        go_at_call 131; refine (concat_any (.slice A1 n1 c1) (.slice A n c) (wantsT l) ws B wx2 (hva.keep hx2) (HW.out.keep hk2) hBl (two_heads hbx).1 (two_heads hbx).2 HLB.out).mono ?_; rintro en wx3 ⟨vc, rfl, hvc, hx3⟩
        have hk3 := hk2.trans (hx3.mono hk2.size)
        refine hK.out _ _ ?_ (fun hHeld => ?_)
        · exact HS.out _ hk3
        clear hK K
        (try simp only [Act.put, List.setIfInBounds_toArray, List.set_cons_zero, List.set_cons_succ])
        refine wpAnyH_ready (rs := [7]) (by kernel_rfl) (by simp) ?_
        refine AllReadyH.cons (o := ⟨some 29, _, _, _, _, _⟩) rfl (fun K hK => ?_) AllReadyH.nil
        rw [if_pos (by kernel_rfl)]
        go_simp
        go_at_call 41; refine (check_any f vc (wantsT l ++ ws) wx3 hvc HII.out).mono ?_; rintro en wx4 ⟨rfl, hx4⟩
        have hk4 := hk3.trans (hx4.mono hk3.size)
        rw [HE3.out]
        refine hK.out _ _ ?_ (fun hHeld => ?_)
        · exact HS.out _ hk4
        clear hK K
        (try simp only [Act.put, List.setIfInBounds_toArray, List.set_cons_zero, List.set_cons_succ])
        refine wpAnyH_take (i := 8) (oi := ⟨some 7, _, _, _, _, _⟩) (v := ?_) rfl (by kernel_rfl) (by kernel_rfl) (by kernel_rfl) (fun _ _ _ h => h) (Or.inl ⟨by kernel_rfl, ?_⟩) (by assumption) ?_
        rotate_left
        · (intro w hSw; (try dsimp only at hSw); go_simp; try with_reducible rfl)
        (try simp only [Act.put, List.setIfInBounds_toArray, List.set_cons_zero, List.set_cons_succ])
        refine wpAnyH_done (by kernel_rfl) ?_ _
        have HB5 := Lib.hid (HB3.out.trans (hk4.mono HB3.out.size))
        have HBX5 := Lib.hid (keep_block HBX3.out hk4)
        obtain ⟨r0, r1, r2⟩ := three_heads HBX5.out
        clear hk0 hk1 hk2 hk3 hk4 hx1 hx2 hx3 hx4 hva hvc hbx hHeld
        cases ha : anyB l ws with
        | true =>
          have e3 : E3 = 11 := by have := HE3V.out; rw [ha, if_pos rfl] at this; exact this
          have HW11 : Hid (Why19 f m l ws 11) := Lib.hid (.inl ⟨by decide, .inr (.inr (.inl ⟨HR.out, HE2.out, ha, rfl⟩))⟩)
          subst e3
          clear ha
          go_wp2_with fail
          go_ret
          exact ⟨11, rfl, HW11.out, HB5.out⟩
        | false =>
          have e3 : E3 = 0 := by have := HE3V.out; rw [ha, if_neg (by decide)] at this; exact this
          have HG : Hid (Goes f m l ws) := Lib.hid ⟨HR.out, HE2.out, ha⟩
          subst e3
          clear ha
          go_wp2_with fail
          refine (HSP.out _ (HH.out.keep HB5.out)).mono ?_
          rintro e w6 ⟨rfl, hb6⟩
          have HB6 := Lib.hid (HB5.out.trans (hb6.mono HB5.out.size))
          have HBX6 := Lib.hid (keep_block HBX5.out hb6)
          obtain ⟨sp, hsp⟩ : ∃ sp, splitsN l = sp := ⟨_, rfl⟩
          have HSPL := Lib.hid hsp
          rw [hsp]
          clear hb6 r0 r1 r2 hsp
          by_cases h0 : sp = 0
          · subst h0
            obtain ⟨r0, r1, r2⟩ := three_heads HBX6.out
            have HTO6 := Lib.hid (HTO.out _ (HW0.out.keep HB6.out))
            rw [tot_chk HE2.out] at HTO6
            have HTO7 : Hid (Calls Tryz.prog 59 #[.slice A n c] w6 (RetB (.tuple #[.int .i64 (sumS ws), .int .i64 0]) w6)) := HTO6
            obtain ⟨t, ht⟩ : ∃ t, sumS ws = t := ⟨_, rfl⟩
            have HT := Lib.hid ht
            rw [ht] at HTO7
            clear ht HTO6
            go_wp2_with fail
            refine HTO7.out.mono ?_
            rintro e w7 ⟨rfl, hb7⟩
            have HB7 := Lib.hid (HB6.out.trans (hb7.mono HB6.out.size))
            have HBX7 := Lib.hid (keep_block HBX6.out hb7)
            clear hb7 r0 r1 r2
            obtain ⟨r0, r1, r2⟩ := three_heads HBX7.out
            go_wp2_with fail
            refine (HFR.out HR.out _ (HH.out.keep HB7.out)).mono ?_
            rintro e w8 ⟨rfl, hb8⟩
            have HB8 := Lib.hid (HB7.out.trans (hb8.mono HB7.out.size))
            obtain ⟨g, hg⟩ : ∃ g, freeT f m l 16 = g := ⟨_, rfl⟩
            have HGF := Lib.hid hg
            rw [hg]
            clear hb8 r0 r1 r2 hg
            by_cases hlt : g < t
            · have hd : decide (g < t) = true := decide_eq_true hlt
              have HW12 : Hid (Why19 f m l ws 12) := Lib.hid (.inr (.inr (.inl ⟨HG.out.why, HSPL.out, by rw [HGF.out, HT.out]; exact hlt, rfl⟩)))
              go_wp2_with fail
              go_ret
              exact ⟨12, rfl, HW12.out, HB8.out⟩
            · have hd : decide (g < t) = false := decide_eq_false hlt
              have HWZ : Hid (Why19 f m l ws 0) := Lib.hid (.inr (.inr (.inr ⟨⟨HG.out, HSPL.out, by rw [HGF.out, HT.out]; omega⟩, rfl⟩)))
              go_wp2_with fail
              go_ret
              exact ⟨0, rfl, HWZ.out, HB8.out⟩
          · have hd : decide ((0 : Int) < (sp : Int)) = true := decide_eq_true (by omega)
            have HW15 : Hid (Why19 f m l ws 15) := Lib.hid (.inr (.inl ⟨HG.out.why, by rw [HSPL.out]; exact h0, rfl⟩))
            go_wp2_with fail
            go_ret
            exact ⟨15, rfl, HW15.out, HB6.out⟩
    · have HWE : Hid (Why19 f m l ws E2) := Lib.hid (.inl ⟨he, .inr (.inl ⟨HR.out, by rw [HE2.out]; exact he, HE2.out.symm⟩)⟩)
      have hb0 : (E2 != 0) = true := by simpa using he
      clear he
      go_wp2_with fail
      go_ret
      exact ⟨E2, rfl, HWE.out, HB3.out⟩
  · have HW30 : Hid (Why19 f m l ws 30) := Lib.hid (.inl ⟨by decide, .inl ⟨fun h => by have := hiff.2 h; omega, rfl⟩⟩)
    clear hiff
    go_wp2_with fail
    go_ret
    exact ⟨30, rfl, HW30.out, HB2.out⟩
end Go.Proofs.YtpfpojehcjmfnaaGreat
