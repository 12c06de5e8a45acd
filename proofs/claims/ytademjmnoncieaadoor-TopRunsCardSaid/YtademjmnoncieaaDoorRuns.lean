/-
  Runs: the program's and the document's.
  Conditions: the numbers are of their kinds; the table of math/bits is as start-up lays it, where it is read.
-/
import Derived.Test.YtademjmnoncieaaDoorRunMath
import Derived.Test.YtademjmnoncieaaDoorNextTick
import Derived.Test.YtademjmnoncieaaDoorRefTurn
set_option linter.unusedVariables false
namespace Go.Proofs.YtademjmnoncieaaDoor
open Go.RowKit

theorem Tryd.infoPair : (Tryd.prog.info? 44).map (fun i => (i.zero, i.size, i.bytes)) = some (some (.agg #[.int .i64 0, .int .i64 0]), 2, 16) := by kernel_rfl

/-- The slice value reads as pairs. -/
def PairsAt (W : World) (v : Value) (ps : List (Nat × Nat)) : Prop :=
  ∃ A c, v = .slice A ps.length c ∧ ps.length ≤ 9223372036854775807 ∧
    (0 < ps.length → ∃ b off, A = some ⟨b, off, none⟩ ∧ b < W.heap.size ∧ ∀ (j : Nat) (p : Nat × Nat), ps[j]? = some p →
      W.cell? ⟨b, off + j * 2, none⟩ = some (.int .i64 p.1) ∧ W.cell? ⟨b, off + j * 2 + 1, none⟩ = some (.int .i64 p.2))
theorem PairsAt.keep {W W' : World} {v : Value} {xs : List (Nat × Nat)} (h : PairsAt W v xs) (hb : Below W.heap.size W W') : PairsAt W' v xs := by
  obtain ⟨A, c, h1, h2, h3⟩ := h
  refine ⟨A, c, h1, h2, fun hn => ?_⟩
  obtain ⟨b, off, e, hlt, hc⟩ := h3 hn
  exact ⟨b, off, e, Nat.lt_of_lt_of_le hlt hb.size, fun j x hx => ⟨(hb.cell (p := ⟨b, off + j * 2, none⟩) hlt).trans (hc j x hx).1, (hb.cell (p := ⟨b, off + j * 2 + 1, none⟩) hlt).trans (hc j x hx).2⟩⟩

def pairCells (p : Nat × Nat) : List Value := [.int .i64 p.1, .int .i64 p.2]
def pairsCells (ps : List (Nat × Nat)) : List Value := ps.flatMap pairCells
theorem pairsCells_snoc (ps : List (Nat × Nat)) (p : Nat × Nat) : pairsCells (ps ++ [p]) = pairsCells ps ++ [.int .i64 p.1, .int .i64 p.2] := by
  simp [pairsCells, pairCells]
theorem pairsCells_length (ps : List (Nat × Nat)) : (pairsCells ps).length = ps.length * 2 := by
  induction ps with
  | nil => rfl
  | cons p ps ih =>
    have : pairsCells (p :: ps) = pairCells p ++ pairsCells ps := rfl
    rw [this, List.length_append, ih]
    simp [pairCells]
    omega
theorem pairsCells_get : ∀ (ps : List (Nat × Nat)) (j : Nat) (p : Nat × Nat), ps[j]? = some p → (pairsCells ps)[j * 2]? = some (.int .i64 p.1) ∧ (pairsCells ps)[j * 2 + 1]? = some (.int .i64 p.2)
  | [], j, p, h => by simp at h
  | q :: ps, 0, p, h => by
    simp at h
    subst h
    exact ⟨rfl, rfl⟩
  | q :: ps, j + 1, p, h => by
    have h' : ps[j]? = some p := by simpa using h
    have ih := pairsCells_get ps j p h'
    have e : pairsCells (q :: ps) = .int .i64 q.1 :: .int .i64 q.2 :: pairsCells ps := rfl
    rw [e, show (j + 1) * 2 = j * 2 + 1 + 1 by omega]
    simpa using ih
theorem pairs_of_own {W : World} {base : Nat} {v : Value} {ps : List (Nat × Nat)} (h : W.ownsRow base 44 2 v ps.length (pairsCells ps)) (hl : ps.length ≤ 9223372036854775807) : PairsAt W v ps := by
  obtain ⟨h1, h2⟩ := h
  rcases h2 with ⟨rfl, h0⟩ | ⟨g, cap, cur, rfl, hg, hh, hn, hc, hs, ht⟩
  · have : ps = [] := List.eq_nil_of_length_eq_zero h0
    subst this
    exact ⟨none, 0, rfl, hl, fun h => absurd h (by simp)⟩
  · refine ⟨_, _, rfl, hl, fun _ => ⟨g, 0, rfl, ?_, fun j p hp => ?_⟩⟩
    · rcases Nat.lt_or_ge g W.heap.size with h' | h'
      · exact h'
      · rw [Array.getElem?_eq_none h'] at hh; cases hh
    · have hj : j < ps.length := (List.getElem?_eq_some_iff.1 hp).1
      obtain ⟨g1, g2⟩ := pairsCells_get ps j p hp
      have key : ∀ (i : Nat) (u : Value), i < ps.length * 2 → (pairsCells ps)[i]? = some u → W.cell? ⟨g, 0 + i, none⟩ = some u := by
        intro i u hi hu
        rw [Nat.zero_add, cell_of_row W g i _ _ (0, 0) hh, ← hu, ← ht, List.getElem?_take, if_pos hi]
        simp
      exact ⟨key _ _ (by omega) g1, key _ _ (by omega) g2⟩

/-- Pairs that a call answers. -/
def RetP (ps : List (Nat × Nat)) (w : World) (e : Ending) (w' : World) : Prop := ∃ v, e = .returned v ∧ PairsAt w' v ps ∧ Below w.heap.size w w'

def RunsRel (m : Nat) (w : World) (g : Nat) (s0 s : Value) (wr : World) : Prop :=
  ∃ b : Nat, b ≤ 64 ∧ g = 64 - b ∧ (b = 0 ∨ m.testBit b = false) ∧ s0 = .int .u64 (fromB m b) ∧ Below w.heap.size w wr ∧ wr.ownsRow w.heap.size 44 2 s (runsT m b).length (pairsCells (runsT m b))

theorem xor_word (x : Nat) (hx : x < 18446744073709551616) : bits .xor .u64 IntKind.u64.max (x : Int) = (notN x : Int) := by
  have e : IntKind.u64.max = ((18446744073709551615 : Nat) : Int) := by decide
  rw [e]
  exact u64_xor_nat 18446744073709551615 x (by decide) hx

set_option maxRecDepth 100000 in
set_option maxHeartbeats 2000000 in
theorem runs_any (m : Nat) (w : World) (hm : m < 18446744073709551616) (hT : Tab w) : Calls Tryd.prog 8 #[.int .u64 m] w (RetP (runsT m 64) w) := by
  obtain ⟨i0, hi, hz0, hz1, hz2⟩ := info_parts Tryd.infoPair
  have HT := Lib.hid hT
  have HZ := Lib.hid (fromB_zero hm)
  clear hT
  go_enter Tryd.func8, Tryd.ntmps8
  go_wp2_with fail
  go_loopg [0, 3] 64 (fun g s0 s wr => RunsRel m w g s0 s wr)
  case atStart => exact ⟨0, Nat.zero_le _, rfl, .inl rfl, by rw [HZ.out], Below.refl _ _, ⟨rfl, .inl ⟨rfl, rfl⟩⟩⟩
  case round =>
    obtain ⟨b, hb, hg, hbd, rfl, hbr, hown⟩ := hrel
    have HG := Lib.hid hg
    have HB := Lib.hid hbr
    have HO := Lib.hid hown
    have HBD := Lib.hid hbd
    clear hg hbr hown hbd
    by_cases h0 : fromB m b = 0
    · have HR := Lib.hid (runs_done hb h0)
      rw [HR.out] at HO
      have HP := Lib.hid (pairs_of_own HO.out (by rw [runsT_length]; have := cntT_le (startN m) 64; omega))
      rw [h0]
      go_wp2
      go_ret
      exact ⟨_, rfl, HP.out, HB.out⟩
    · obtain ⟨c, e, hnr⟩ := next_run hm hb HBD.out h0
      have HN := Lib.hid hnr
      have c64 := hnr.c64
      have ce := hnr.ce
      have e64 := hnr.e64
      have bc := hnr.bc
      clear hnr
      have hne : ((fromB m b : Int) != 0) = true := by simp; omega
      have hxl := fromB_lt m b
      have htz1 := tz_any (fromB m b) wr hxl (HT.out.later HB.out)
      rw [HN.out.lo] at htz1
      have hdl : fromB m b / 2 ^ c < 18446744073709551616 := Nat.lt_of_le_of_lt (Nat.div_le_self _ _) hxl
      have hdiv := shr_nat (fromB m b) c
      have hxor := xor_word (fromB m b / 2 ^ c) hdl
      have htz2 := tz_any (notN (fromB m b / 2 ^ c)) wr (notN_lt hdl) (HT.out.later HB.out)
      have hadd : (c : Int) + (Lib.ctz 64 (notN (fromB m b / 2 ^ c)) : Int) = (e : Int) := by
        have := HN.out.hi
        unfold endN at this
        omega
      have HA := Lib.hid (fun W => all_any (e : Int) W)
      have hfe : frN (e : Int) = e := by unfold frN; omega
      rw [hfe] at HA
      have hless := andNot_word (fromB m b) (allN e) hxl (allN_lt e64)
      rw [HN.out.less] at hless
      generalize fromB m b / 2 ^ c = d at *
      generalize notN d = nd at *
      generalize Lib.ctz 64 nd = q at *
      generalize hy : fromB m e = y at *
      generalize allN e = al at *
      have HY := Lib.hid hy
      generalize fromB m b = x at *
      rw [runsT_length] at HO
      have hlen := cntT_le (startN m) b
      generalize hn : cntT (startN m) b = n at *
      have HLN := Lib.hid hn
      have HTZ1 := Lib.hid htz1
      have HTZ2 := Lib.hid htz2
      have hsz := HB.out.size
      clear hn hy h0 hfe hxl hdl htz1 htz2
      go_wp2_with (first
        | (go_at_call 19; first | ((with_reducible refine HTZ1.out.mono ?_); rintro e' w' ⟨rfl, rfl⟩) | ((with_reducible refine HTZ2.out.mono ?_); rintro e' w' ⟨rfl, rfl⟩))
        | (at_builtin; refine wpList_append_own _ rfl _ _ 31 rfl w.heap.size 44 i0 (.agg #[.int .i64 0, .int .i64 0]) 2 16 Tryd.underlying31 hi hz0 hz1 hz2 rfl (by decide) _ _ _ rfl (HO.out.alloc _) ⟨wr.heap.size, 0, none⟩ 1 1 [.int .i64 c, .int .i64 e] rfl rfl ?c1 ?c2 ?c3 ?c4 ?c5 ?_))
      case c1 =>
        intro j u hj
        rcases j with _ | _ | j
        · simpa [Addr.add] using hj
        · simpa [Addr.add] using hj
        · simp at hj
      case c2 => intro u hu; simp at hu; rcases hu with rfl | rfl <;> rfl
      case c3 => unfold maxLen; omega
      case c4 => omega
      case c5 => simp; omega
      intro v2 w2 hown2 hgrow _
      have HB2 := Lib.hid ((HB.out.alloc hsz _).trans (below_grown4 hgrow (by simp; omega) (own_base4 HO.out)))
      have HO2 := Lib.hid hown2
      clear hown2 hgrow hsz
      go_wp2_with (go_at_call 20; refine (HA.out _).mono ?_; rintro e' w' ⟨rfl, rfl⟩)
      go_roundg (64 - e)
      case measure => have := HG.out; omega
      case rel =>
        refine ⟨e, e64, rfl, .inr HN.out.out, by rw [HY.out], HB2.out, ?_⟩
        have h := HO2.out
        rw [HN.out.list, pairsCells_snoc, List.length_append, runsT_length, HLN.out]
        exact h

def RefRunsRel (m : Nat) (w : World) (g : Nat) (s i : Value) (wr : World) : Prop :=
  ∃ k : Nat, k ≤ 64 ∧ g = 64 - k ∧ i = .int .i64 k ∧ Below w.heap.size w wr ∧ wr.ownsRow w.heap.size 44 2 s (runsT m k).length (pairsCells (runsT m k))
def EndRel (m k : Nat) (s : Value) : Prop := ∃ e : Nat, s = .int .i64 e ∧ k ≤ e ∧ e ≤ 64 ∧ ∀ i, k ≤ i → i < e → m.testBit i = true

theorem hasB_pred (m k : Nat) (hk : k < 64) : hasB m ((k : Int) - 1) = (!decide (k = 0) && m.testBit (k - 1)) := by
  rcases Nat.eq_zero_or_pos k with h | h
  · subst h
    rw [hasB_out (by omega)]
    rfl
  · rw [show ((k : Int) - 1) = ((k - 1 : Nat) : Int) by omega, hasB_nat (by omega)]
    have : ¬ k = 0 := by omega
    simp [this]
theorem stB_has (m k : Nat) (hk : k < 64) (h : m.testBit k = true) : stB m k = !hasB m ((k : Int) - 1) := by
  rw [hasB_pred m k hk]
  unfold stB
  rw [h]
  simp
end Go.Proofs.YtademjmnoncieaaDoor
