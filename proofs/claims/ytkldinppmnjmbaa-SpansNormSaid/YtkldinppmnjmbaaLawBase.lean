/-
  What the laws are put together of: of, same, few, the document's Total, the page's examples.
  Conditions: none beyond what the slices read as.
-/
import Derived.Test.YtkldinppmnjmbaaOp
import Derived.Test.YtkldinppmnjmbaaGaps
import Derived.Test.YtkldinppmnjmbaaUnion
set_option linter.unusedVariables false
namespace Go.Proofs.Ytkldinppmnjmbaa
open Go.RowKit

theorem lit_spans (W : World) (ps : List Sp) (t : Nat) (hl : ps.length ≤ 100000) : SpansAt (W.alloc (.cells (spansCells ps).toArray t)) (.slice (some ⟨W.heap.size, 0, none⟩) ps.length ps.length) ps := by
  refine spans_of_own (base := 0) (e := t) ?_ hl
  have := World.ownsRow_lit (base := 0) (e := t) (size := 2) W (spansCells ps).toArray ps.length (Nat.zero_le _) (by unfold maxLen; omega) (by simp [spansCells_length])
  simpa using this

def OfRel (ps : List Sp) (w : World) (g : Nat) (s3 s4 : Value) (wr : World) : Prop :=
  ∃ i : Nat, i ≤ ps.length ∧ g = ps.length - i ∧ s4 = .int .i64 i ∧ Below w.heap.size w wr ∧ wr.ownsRow w.heap.size 45 2 s3 i (spansCells (ps.take i))

set_option maxRecDepth 100000 in
set_option maxHeartbeats 4000000 in
theorem of_any (v : Value) (ps : List Sp) (w : World) (h : SpansAt w v ps) : Calls Try.prog 9 #[v] w (RetS ps w) := by
  obtain ⟨i0, hi, hz0, hz1, hz2⟩ := info_parts Try.infoSpan
  obtain ⟨A, c, rfl, hc1, hlen, hc2, hat⟩ := h
  have HAT := Lib.hid hat
  clear hat
  go_enter Try.func9, Try.ntmps9
  go_wp2_with fail
  go_loopg [3, 4] ps.length (fun g s3 s4 wr => OfRel ps w g s3 s4 wr)
  case atStart => exact ⟨0, Nat.zero_le _, by omega, rfl, Below.refl _ _, World.ownsRow_nil _ _ _ _⟩
  case round =>
    obtain ⟨i, hin, hgg, rfl, hbw, hown⟩ := hrel
    have HG := Lib.hid hgg
    have HB := Lib.hid hbw
    have HO := Lib.hid hown
    have hsz := hbw.size
    clear hgg hbw hown
    by_cases hlt : i < ps.length
    · obtain ⟨b, off, hA, hbl, hcell⟩ := HAT.out (by omega)
      subst hA
      obtain ⟨y, hy⟩ := ex_at (xs := ps) (k := i) hlt
      obtain ⟨c1, c2⟩ := (hcell i y hy).keep HB.out hbl
      have HT := Lib.hid (take_succ_of hy)
      obtain ⟨y1, y2⟩ := y
      simp only at c1 c2
      generalize hn : ps.length = n at *
      have HN := Lib.hid hn
      have hltz : (i : Int) < (n : Int) := by omega
      have hi0 : (0 : Int) ≤ (i : Int) := by omega
      have hblr : b < wr.heap.size := by omega
      obtain ⟨A0, k0, rfl⟩ := own_form HO.out
      have ak : (Value.slice A0 i k0).ownBlock ≠ some b := fun e => by have := own_base5 HO.out _ e; omega
      clear hcell hy hn
      go_wp2_with fail
      go_region_held3 (fun w' => w'.cell? ⟨b, off + i * 2, none⟩ = some (.int .i64 y1) ∧ w'.cell? ⟨b, off + i * 2 + 1, none⟩ = some (.int .i64 y2))
        (first
          | go_keep
          | (go_split_ands
             refine ⟨?_, ?_⟩
             · (rw [hgrow.cell_far _ (by simp; omega) (Ne.symm ak)]; assumption)
             · (rw [hgrow.cell_far _ (by simp; omega) (Ne.symm ak)]; assumption)))
        ((refine step_append_lies _ (by rfl) _ _ _ (by rfl) w.heap.size 45 i0 _ 2 16 Try.underlying24 hi hz0 hz1 hz2 rfl (by omega) (Value.slice A0 i k0) i (spansCells (ps.take i)) (by rfl) ((own_draw HO.out 1).alloc _)
            ⟨wr.heap.size, 0, none⟩ 1 1 [.int .i64 y1, .int .i64 y2] (by rfl) (by rfl) (news_two _ _ (by simp) _ _ _) (by simp [Value.oneCell'])
            (by omega) (by unfold maxLen; omega) (by omega) (by simp; omega) (wr.heap.size + 1) (by simp) ?_; intro gg cap3 w3 hown3 hgrow hat hlt3))
      all_goals
        have HB3 := Lib.hid ((HB.out.alloc hsz (Obj.cells #[Value.int .i64 y1, Value.int .i64 y2] 45)).drew.trans (below_grown5 hgrow (by simp; omega) (own_base5 HO.out)))
        have HO3 := Lib.hid hown3
        clear hown3 hgrow hat
        go_wp2
        go_roundg (n - (i + 1))
        case measure => have := HG.out; omega
        case rel =>
          refine ⟨i + 1, by have := HN.out; omega, by rw [HN.out], by go_num, HB3.out, ?_⟩
          rw [HT.out, spansCells_snoc]
          exact HO3.out
    · have hend : i = ps.length := by omega
      have HF := Lib.hid (show SpansAt wr u3 ps by
        have h := HO.out
        rw [hend, List.take_length] at h
        exact spans_of_own h hlen)
      have hltz : ¬ (i : Int) < (ps.length : Int) := by omega
      clear hend
      go_wp2
      go_ret
      exact ⟨_, rfl, HF.out, HB.out⟩

set_option maxRecDepth 100000 in
set_option maxHeartbeats 2000000 in
/-- Two slices that read alike. -/
theorem same_any (x y : Value) (ps : List Sp) (w : World) (hx : SpansAt w x ps) (hy : SpansAt w y ps) : Calls Try.prog 11 #[x, y] w (RetB (.bool true) w) := by
  obtain ⟨A1, k1, rfl, a1, a2, a3, a4⟩ := hx
  obtain ⟨A2, k2, rfl, b1, b2, b3, b4⟩ := hy
  have HX := Lib.hid a4
  have HY := Lib.hid b4
  generalize hn : ps.length = n at *
  have HN := Lib.hid hn
  have hnn : ((n : Int) != (n : Int)) = false := by simp
  clear a4 b4 hn
  go_enter Try.func11, Try.ntmps11
  go_wp2_with fail
  go_loopg [5] n (fun g s wr => ∃ i : Nat, i ≤ n ∧ g = n - i ∧ s = .int .i64 i ∧ Below w.heap.size w wr)
  case atStart => exact ⟨0, Nat.zero_le _, by omega, rfl, Below.refl _ _⟩
  case round =>
    obtain ⟨i, hin, hgg, rfl, hbw⟩ := hrel
    have HG := Lib.hid hgg
    have HB := Lib.hid hbw
    clear hgg hbw
    by_cases hlt : i < n
    · obtain ⟨bx, ox, hA1, hl1, hc1⟩ := HX.out (by omega)
      obtain ⟨by_, oy, hA2, hl2, hc2⟩ := HY.out (by omega)
      subst hA1 hA2
      obtain ⟨z, hz⟩ := ex_at (xs := ps) (k := i) (by rw [HN.out]; exact hlt)
      obtain ⟨c1, c2⟩ := (hc1 i z hz).keep HB.out hl1
      obtain ⟨d1, d2⟩ := (hc2 i z hz).keep HB.out hl2
      obtain ⟨z1, z2⟩ := z
      simp only at c1 c2 d1 d2
      have e1 : (z1 != z1) = false := by simp
      have e2 : (z2 != z2) = false := by simp
      have hltz : (i : Int) < (n : Int) := by omega
      clear hc1 hc2 hz
      go_wp2_with fail
      go_quiet (fail)
      go_wp2_with fail
      go_roundg (n - (i + 1))
      case measure => have := HG.out; omega
      case rel => exact ⟨i + 1, by omega, rfl, by go_num, below_drewN HB.out _⟩
    · have hltz : ¬ (i : Int) < (n : Int) := by omega
      go_wp2
      go_ret
      exact ⟨rfl, HB.out⟩

/-- An argument: it may be of any length. -/
def ArgAt (W : World) (v : Value) (ps : List Sp) : Prop :=
  ∃ A c, v = .slice A ps.length c ∧ ps.length ≤ c ∧ c ≤ 9223372036854775807 ∧ (A = none → c = 0) ∧
    (0 < ps.length → ∃ b off, A = some ⟨b, off, none⟩ ∧ b < W.heap.size ∧ ∀ (j : Nat) (p : Sp), j < 30 → ps[j]? = some p → PairAt W b (off + j * 2) p)

theorem few_any (v : Value) (ps : List Sp) (w : World) (h : ArgAt w v ps) :
    Calls Try.prog 7 #[v] w (fun e w' => ∃ u, e = .returned u ∧ SpansAt w u (ps.take 30) ∧ w = w') := by
  obtain ⟨A, c, rfl, hc1, hc2, hnil, hat⟩ := h
  have HAT := Lib.hid hat
  have HNIL := Lib.hid hnil
  have hm : min (ps.length : Int) 30 = ((min ps.length 30 : Nat) : Int) := by omega
  have hmn : min ps.length 30 ≤ ps.length := Nat.min_le_left _ _
  have HTL := Lib.hid (show (ps.take 30).length = min ps.length 30 by rw [List.length_take, Nat.min_comm])
  generalize hn : ps.length = n at *
  have HN := Lib.hid hn
  have hm30 : min n 30 ≤ 30 := Nat.min_le_right _ _
  have hmle : min n 30 ≤ n := Nat.min_le_left _ _
  generalize min n 30 = m at *
  have hmc : (m : Int) ≤ (c : Int) := by omega
  have hm0 : (0 : Int) ≤ (m : Int) := by omega
  clear hat hnil hn
  go_enter Try.func7, Try.ntmps7
  go_wp2
  go_ret
  refine ⟨.slice A m c, rfl, ⟨A, c, by rw [HTL.out], by rw [HTL.out]; omega, by rw [HTL.out]; omega, hc2, fun hp => ?_⟩, rfl⟩
  rw [HTL.out] at hp
  obtain ⟨b, off, hA, hbl, hcell⟩ := HAT.out (by omega)
  refine ⟨b, off, hA, hbl, fun j p hj => ?_⟩
  rw [List.getElem?_take] at hj
  by_cases h : j < 30
  · rw [if_pos h] at hj
    exact hcell j p h hj
  · rw [if_neg h] at hj; cases hj

set_option maxRecDepth 100000 in
set_option maxHeartbeats 2000000 in
theorem refTotal_any (v : Value) (ps : List Sp) (w : World) (h : SpansAt w v ps) (hl : ps.length * 2 ≤ 80000) :
    Calls Try.prog 17 #[v] w (RetB (.int .u64 (totF (refOp 0 ps []))) w) := by
  have HC := Lib.hid (op0_any v (.slice none 0 0) ps [] w h (SpansAt.nil w) (by simpa using hl))
  generalize refOp 0 ps [] = r at *
  clear h
  go_enter Try.func17, Try.ntmps17
  go_wp2_with fail
  refine HC.out.mono ?_
  rintro e w1 ⟨v1, rfl, hat1, hb1⟩
  obtain ⟨A, c, rfl, hc1, hlen, hc2, hat⟩ := hat1
  have HAT := Lib.hid hat
  have HB1 := Lib.hid hb1
  generalize hn : r.length = n at *
  have HN := Lib.hid hn
  clear hat hn hb1 HC
  go_wp2_with fail
  go_loopg [3, 5] n (fun gg s3 s5 wr => ∃ i : Nat, i ≤ n ∧ gg = n - i ∧ s5 = .int .i64 i ∧ s3 = .int .u64 (totF (r.take i)) ∧ Below w1.heap.size w1 wr)
  case atStart => exact ⟨0, Nat.zero_le _, by omega, rfl, rfl, Below.refl _ _⟩
  case round =>
    obtain ⟨i, hin, hgg, rfl, rfl, hbw⟩ := hrel
    have HG := Lib.hid hgg
    have HB := Lib.hid hbw
    clear hgg hbw
    by_cases hlt : i < n
    · have hltz : (i : Int) < (n : Int) := by omega
      obtain ⟨b, off, hA, hbl, hcell⟩ := HAT.out (by omega)
      subst hA
      obtain ⟨y, hy⟩ := ex_at (xs := r) (k := i) (by rw [HN.out]; exact hlt)
      obtain ⟨c1, c2⟩ := (hcell i y hy).keep HB.out hbl
      have HY := Lib.hid (totF_take hy)
      clear hcell hy
      generalize totF (r.take i) = t at *
      obtain ⟨y1, y2⟩ := y
      have HS := Lib.hid (show sizeW (y1, y2) = IntKind.u64.wrap (IntKind.u64.wrap y2 - IntKind.u64.wrap y1) from rfl)
      simp only at c1 c2
      go_wp2_with fail
      go_quiet (fail)
      go_wp2_with fail
      go_roundg (n - (i + 1))
      case measure => have := HG.out; omega
      case rel =>
        exact ⟨i + 1, by omega, rfl, by go_num, by rw [HY.out, HS.out], below_drewN HB.out _⟩
    · have hin' : i = n := by omega
      subst hin'
      have hltz : ¬ (i : Int) < (i : Int) := by omega
      have HR := Lib.hid (show r.take i = r by rw [← HN.out, List.take_length])
      go_wp2
      go_ret
      exact ⟨by rw [HR.out]; rfl, HB1.out.trans (HB.out.mono HB1.out.size)⟩
end Go.Proofs.Ytkldinppmnjmbaa
