/-
  Maps of the call's own from units to places.
  Conditions: none.
-/
import Derived.Test.YtincbilobmhgeaaM02
import Derived.Shelf.RegionOpenPlain
import Derived.Laws.MakeOwn
import Derived.Lib.SlKeysI
import Derived.Lib.SlMapMerge
import Derived.Maps.Own
import Derived.Maps.OwnOps
import Derived.Maps.OwnSet
import Derived.Maps.Views
import Derived.Maps.RangeWalk

/-
  Pieces and places held against each other, by the program.
  Conditions: the slices read as pieces.
-/
set_option linter.unusedVariables false
namespace Go.Proofs.Ytincbilobmhgeaa
open Go.RowKit


set_option maxRecDepth 100000 in
set_option maxHeartbeats 2000000 in
theorem equalPc_any (u v : Value) (xs ys : List Pc) (w : World) (hs : PcsAt w u xs) (ht : PcsAt w v ys) :
    Calls Try.prog 44 #[u, v] w (RetB (.bool (decide (xs = ys))) w) := by
  have HA := Lib.hid hs
  have HB := Lib.hid ht
  have hbA := hs.bound
  have hbB := ht.bound
  obtain ⟨A, c, rfl⟩ := hs.form
  obtain ⟨B, d, rfl⟩ := ht.form
  obtain ⟨n, hn⟩ : ∃ n, xs.length = n := ⟨_, rfl⟩
  obtain ⟨m, hm⟩ : ∃ m, ys.length = m := ⟨_, rfl⟩
  rw [hn] at HA hbA ⊢
  rw [hm] at HB hbB ⊢
  have HN := Lib.hid hn
  have HM := Lib.hid hm
  clear hs ht hn hm
  by_cases hne : n = m
  · subst hne
    have hn2 : ((n : Int) != (n : Int)) = false := by simp
    go_enter Try.func44, Try.ntmps44
    go_wp2_with fail
    go_loopg [5, 13] n (fun g _ i wr => ∃ k : Nat, k ≤ n ∧ g = n - k ∧ i = .int .i64 k ∧ Hid (xs.take k = ys.take k) ∧ Below w.heap.size w wr)
    case atStart => exact ⟨0, Nat.zero_le _, by omega, rfl, rfl, Below.refl _ _⟩
    case round =>
      obtain ⟨k, hk, hg, rfl, HT, hbw⟩ := hrel
      have HG := Lib.hid hg
      have HBW := Lib.hid hbw
      clear hg hbw
      by_cases hlt : k < n
      · have hltz : (k : Int) < (n : Int) := by omega
        have hk0 : (0 : Int) ≤ (k : Int) := by omega
        obtain ⟨x, hx⟩ := exP_at (xs := xs) (k := k) (by rw [HN.out]; exact hlt)
        obtain ⟨y, hy⟩ := exP_at (xs := ys) (k := k) (by rw [HM.out]; exact hlt)
        obtain ⟨b, off, hAe, _, _, x0, x1⟩ := (HA.out.keep HBW.out).at_ hx
        obtain ⟨b', off', hBe, _, _, y0, y1⟩ := (HB.out.keep HBW.out).at_ hy
        subst hAe hBe
        have HTN := Lib.hid (fun e => takeP_same HT hx hy e)
        have HDF := Lib.hid (fun e => differP hx hy e)
        obtain ⟨xc, xt⟩ := x
        obtain ⟨yc, yt⟩ := y
        simp only at x0 x1 y0 y1 HTN HDF
        clear hx hy
        by_cases h1 : xc = yc
        · have e1 : (xc == yc) = true := by simpa using h1
          have e1' : (xc != yc) = false := by simpa using h1
          by_cases h2 : xt = yt
          · have e2 : ((xt : Int) == (yt : Int)) = true := by subst h2; simp
            have e2' : ((xt : Int) != (yt : Int)) = false := by subst h2; simp
            have HNX : Hid (xs.take (k + 1) = ys.take (k + 1)) := HTN.out (by rw [h1, h2])
            clear h1 h2
            go_wp2_with fail
            go_quiet (fail)
            go_wp2_with fail
            go_roundg (n - (k + 1))
            case measure => have := HG.out; omega
            case rel => exact ⟨k + 1, by omega, rfl, by go_num, HNX, below_drewN HBW.out _⟩
          · have e2 : ((xt : Int) == (yt : Int)) = false := by simp; omega
            have e2' : ((xt : Int) != (yt : Int)) = true := by simp; omega
            have E := Lib.hid (decide_eq_false (HDF.out (fun h => h2 (by injection h))))
            clear h1 h2
            go_wp2_with fail
            go_quiet (fail)
            go_wp2_with fail
            go_ret
            exact ⟨ret_bool E.out.symm, below_drewN HBW.out _⟩
        · have e1 : (xc == yc) = false := by simpa using h1
          have e1' : (xc != yc) = true := by simpa using h1
          have E := Lib.hid (decide_eq_false (HDF.out (fun h => h1 (by injection h))))
          clear h1
          go_wp2_with fail
          go_quiet (fail)
          go_wp2_with fail
          go_ret
          exact ⟨ret_bool E.out.symm, below_drewN HBW.out _⟩
      · have hltz : ¬ (k : Int) < (n : Int) := by omega
        have E := Lib.hid (decide_eq_true (show xs = ys by
          have h : xs.take k = ys.take k := HT
          rwa [List.take_of_length_le (by rw [HN.out]; omega), List.take_of_length_le (by rw [HM.out]; omega)] at h))
        go_wp2_with fail
        go_ret
        exact ⟨ret_bool E.out.symm, HBW.out⟩
  · have E := Lib.hid (decide_eq_false (show ¬ xs = ys from fun e => hne (by rw [← HN.out, ← HM.out, e])))
    have hn2 : ((n : Int) != (m : Int)) = true := by simp; omega
    clear hne
    go_enter Try.func44, Try.ntmps44
    go_wp2_with fail
    go_ret
    exact ⟨ret_bool E.out.symm, Below.refl _ _⟩

set_option maxRecDepth 100000 in
set_option maxHeartbeats 4000000 in
theorem samePlace_any (u v : Value) (x y : Pl) (w : World) (hs : PcsAt w u x.ps) (ht : PcsAt w v y.ps) :
    Calls Try.prog 33 #[plA u x, plA v y] w (RetB (.bool (decide (x = y))) w) := by
  have HA := Lib.hid hs
  have HB := Lib.hid ht
  have hbA := hs.bound
  have hbB := ht.bound
  obtain ⟨A, c, rfl⟩ := hs.form
  obtain ⟨B, d, rfl⟩ := ht.form
  have HNO := Lib.hid (@pl_no x y)
  have HSA := Lib.hid (@pl_same x y)
  obtain ⟨xu, xs, xc, ps⟩ := x
  obtain ⟨yu, ys, yc, qs⟩ := y
  simp only at *
  obtain ⟨n, hn⟩ : ∃ n, ps.length = n := ⟨_, rfl⟩
  obtain ⟨m, hm⟩ : ∃ m, qs.length = m := ⟨_, rfl⟩
  rw [hn] at HA hbA ⊢
  rw [hm] at HB hbB ⊢
  have HN := Lib.hid hn
  have HM := Lib.hid hm
  obtain ⟨R, hR⟩ : ∃ R, decide ((⟨xu, xs, xc, ps⟩ : Pl) = ⟨yu, ys, yc, qs⟩) = R := ⟨_, rfl⟩
  rw [hR] at HNO HSA ⊢
  obtain ⟨w1, P, hw1, hP, hPl, hb1, hbox⟩ := box_any w #[.int .i64 xu, .int .i64 xs, .int .i64 xc, .slice A n c] 37
  obtain ⟨w2, X, hw2, hX, hXl, hb2, hxbox⟩ := box_any w1 #[.int .i64 yu, .int .i64 ys, .int .i64 yc, .slice B m d] 37
  have HB2 := Lib.hid (hb1.trans (hb2.mono hb1.size))
  have HPB := Lib.hid (keep_block hbox hb2)
  have HXB := Lib.hid hxbox
  obtain ⟨p0, p1, p2, p3⟩ := four_heads HPB.out
  obtain ⟨q0, q1, q2, q3⟩ := four_heads hxbox
  have HA2 := Lib.hid (HA.out.keep HB2.out)
  have HBB2 := Lib.hid (HB.out.keep HB2.out)
  unfold plA
  clear hs ht hn hm hR hb1 hb2 hbox hxbox
  by_cases h1 : xu = yu
  · have e1 : (xu == yu) = true := by simpa using h1
    have e1' : (xu != yu) = false := by simpa using h1
    by_cases h2 : xs = ys
    · have e2 : (xs == ys) = true := by simpa using h2
      have e2' : (xs != ys) = false := by simpa using h2
      by_cases h3 : xc = yc
      · have e3 : (xc == yc) = true := by simpa using h3
        have e3' : (xc != yc) = false := by simpa using h3
        have HR := Lib.hid (HSA.out h1 h2 h3)
        clear h1 h2 h3
        have HEQ := Lib.hid (equalPc_any (.slice A n c) (.slice B m d) ps qs w2 HA2.out HBB2.out)
        rw [← HR.out] at HEQ
        go_enter Try.func33, Try.ntmps33
        go_wp2_with fail
        refine HEQ.out.mono ?_
        rintro e w3 ⟨rfl, hb3⟩
        have HB3 := Lib.hid (HB2.out.trans (hb3.mono HB2.out.size))
        clear hb3
        go_wp2_with fail
        go_ret
        exact ⟨rfl, HB3.out⟩
      · have e3 : (xc == yc) = false := by simpa using h3
        have e3' : (xc != yc) = true := by simpa using h3
        have E : Hid (R = false) := HNO.out (.inr (.inr (.inl h3)))
        clear h1 h2 h3
        go_enter Try.func33, Try.ntmps33
        go_wp2_with fail
        go_ret
        exact ⟨ret_bool E.out.symm, HB2.out⟩
    · have e2 : (xs == ys) = false := by simpa using h2
      have e2' : (xs != ys) = true := by simpa using h2
      have E : Hid (R = false) := HNO.out (.inr (.inl h2))
      clear h1 h2
      go_enter Try.func33, Try.ntmps33
      go_wp2_with fail
      go_ret
      exact ⟨ret_bool E.out.symm, HB2.out⟩
  · have e1 : (xu == yu) = false := by simpa using h1
    have e1' : (xu != yu) = true := by simpa using h1
    have E : Hid (R = false) := HNO.out (.inl h1)
    clear h1
    go_enter Try.func33, Try.ntmps33
    go_wp2_with fail
    go_ret
    exact ⟨ret_bool E.out.symm, HB2.out⟩
end Go.Proofs.Ytincbilobmhgeaa

/-
  A unit's place: slices.IndexFunc, slices.Clone of pieces, clone, Find of both.
  Conditions: the slice reads as places.
-/
set_option linter.unusedVariables false
namespace Go.Proofs.Ytincbilobmhgeaa
open Go.RowKit

def findU (l : List Pl) (u : Int) : Option Pl := l.find? fun x => decide (x.u = u)
def zeroPl : Pl := ⟨0, 0, 0, []⟩
theorem findU_miss {l : List Pl} {k : Nat} {x : Pl} {u : Int} (h : findU (l.take k) u = none) (hx : l[k]? = some x) (hu : x.u ≠ u) : findU (l.take (k + 1)) u = none := by
  unfold findU at h ⊢
  rw [List.take_add_one, hx, Option.toList_some, List.find?_append, h]
  simp [hu]
theorem findU_hit {l : List Pl} {k : Nat} {x : Pl} {u : Int} (h : findU (l.take k) u = none) (hx : l[k]? = some x) (hu : x.u = u) : findU l u = some x := by
  unfold findU at h ⊢
  have e : l = l.take k ++ x :: l.drop (k + 1) := by
    obtain ⟨hk, hx'⟩ := List.getElem?_eq_some_iff.1 hx
    rw [← hx', ← List.drop_eq_getElem_cons hk, List.take_append_drop]
  rw [e, List.find?_append, h]
  simp [hu]
/-- Where a unit's place is. -/
def RetIdx (l : List Pl) (u : Int) (w : World) (e : Ending) (w' : World) : Prop :=
  ∃ r : Int, e = .returned (.int .i64 r) ∧ ((r = -1 ∧ findU l u = none) ∨ ∃ (k : Nat) (x : Pl), r = k ∧ l[k]? = some x ∧ findU l u = some x) ∧ Below w.heap.size w w'

def pcsCells (ps : List Pc) : List Value := ps.flatMap pcCells
theorem pcsCells_cons (y : Pc) (ps : List Pc) : pcsCells (y :: ps) = .int .i64 y.c :: .int .u64 y.t :: pcsCells ps := by simp [pcsCells, pcCells]
theorem pcsCells_length : ∀ (ps : List Pc), (pcsCells ps).length = ps.length * 2
  | [] => rfl
  | y :: ps => by rw [pcsCells_cons]; simp [pcsCells_length ps]; omega
theorem pcsCells_get : ∀ (ps : List Pc) (j : Nat) (y : Pc), ps[j]? = some y → (pcsCells ps)[j * 2]? = some (.int .i64 y.c) ∧ (pcsCells ps)[j * 2 + 1]? = some (.int .u64 y.t)
  | [], j, y, h => by simp at h
  | z :: ps, 0, y, h => by
    simp at h
    subst h
    exact ⟨rfl, rfl⟩
  | z :: ps, j + 1, y, h => by
    have ih := pcsCells_get ps j y (by simpa using h)
    rw [pcsCells_cons, show (j + 1) * 2 = j * 2 + 1 + 1 by omega]
    simpa using ih
theorem pcsCells_one (ps : List Pc) : ∀ u ∈ pcsCells ps, u.oneCell' = true := by
  intro u hu
  obtain ⟨y, _, hy⟩ := List.mem_flatMap.1 hu
  simp [pcCells] at hy
  rcases hy with rfl | rfl <;> rfl
theorem pcsCells_of {W : World} {b off : Nat} : ∀ (ps : List Pc), (∀ (j : Nat) (y : Pc), ps[j]? = some y → PcAt W b (off + j * 2) y) → ∀ j u, (pcsCells ps)[j]? = some u → W.cell? ⟨b, off + j, none⟩ = some u := by
  intro ps hc j u h
  have hj : j < ps.length * 2 := by rw [← pcsCells_length]; exact (List.getElem?_eq_some_iff.1 h).1
  obtain ⟨i, hi⟩ : ∃ i, j = i * 2 ∨ j = i * 2 + 1 := ⟨j / 2, by omega⟩
  obtain ⟨y, hy⟩ := exP_at (xs := ps) (k := i) (by omega)
  obtain ⟨g1, g2⟩ := pcsCells_get ps i y hy
  obtain ⟨k1, k2⟩ := hc i y hy
  rcases hi with rfl | rfl
  · rw [g1] at h
    rw [k1]; exact h
  · rw [g2] at h
    rw [← Nat.add_assoc, k2]; exact h
/-- A row of a call's own reads as pieces. -/
theorem pcs_of_own {W : World} {base : Nat} {v : Value} {ps : List Pc} (h : W.ownsRow base 56 2 v ps.length (pcsCells ps)) : PcsIn (fun b => base ≤ b) W v ps := by
  obtain ⟨h1, h2⟩ := h
  rcases h2 with ⟨rfl, h0⟩ | ⟨g, cap, cur, rfl, hg, hh, hn, hc, hs, ht⟩
  · have : ps = [] := List.eq_nil_of_length_eq_zero h0
    subst this
    exact PcsIn.nil _ W
  · refine ⟨_, cap, rfl, hn, by unfold maxLen at hc; omega, fun _ => ⟨g, 0, rfl, heap_lt hh, hg, fun j y hy => ?_⟩⟩
    have hj : j < ps.length := (List.getElem?_eq_some_iff.1 hy).1
    obtain ⟨g1, g2⟩ := pcsCells_get ps j y hy
    have key : ∀ (i : Nat) (u : Value), i < ps.length * 2 → (pcsCells ps)[i]? = some u → W.cell? ⟨g, 0 + i, none⟩ = some u := by
      intro i u hi hu
      rw [Nat.zero_add, cell_of_row W g i _ _ (0, 0) hh, ← hu, ← ht, List.getElem?_take, if_pos hi]
      simp
    exact ⟨key _ _ (by omega) g1, by rw [Nat.add_assoc]; exact key _ _ (by omega) g2⟩
/-- What a call answers: these pieces, in memory of its own. -/
def RetPcs (ps : List Pc) (w : World) (e : Ending) (w' : World) : Prop := ∃ v, e = .returned v ∧ PcsIn (fun b => w.heap.size ≤ b) w' v ps ∧ Below w.heap.size w w'

set_option maxRecDepth 100000 in
set_option maxHeartbeats 2000000 in
theorem clonePcs_any (v : Value) (ps : List Pc) (w : World) (h : PcsAt w v ps) (hl : ps.length ≤ 1000) : Calls Try.prog 49 #[v] w (RetPcs ps w) := by
  obtain ⟨A, c, rfl, hc1, hc2, hat⟩ := h
  have q22 : ∀ (w : World) (a : Option Addr) (n c n' c' : Nat), (binOp .eql 35 (.slice a n c) (.slice none n' c')).run Try.prog w = .ok (.bool a.isNone) w := fun w a n c n' c' => Lib.run_eql_slice_nil w _ _ a n c n' c' Try.underlying35
  rcases A with _ | a
  · have : ps = [] := by
      rcases Nat.eq_zero_or_pos ps.length with h | h
      · exact List.eq_nil_of_length_eq_zero h
      · obtain ⟨b, off, e, _⟩ := hat h; cases e
    subst this
    clear hat
    go_enter Try.func49, Try.ntmps49
    go_wp2
    go_ret
    exact ⟨_, rfl, PcsIn.nil _ _, Below.refl _ _⟩
  · have hb : Below w.heap.size w (w.alloc (.cells #[] 56)) := (Below.refl _ w).alloc (Nat.le_refl _) _
    have hlit := World.ownsRow_lit (base := w.heap.size) (e := 56) (size := 2) w #[] 0 (Nat.le_refl _) (by unfold maxLen; omega) rfl
    obtain ⟨i, hi, hz0, hz1, hz2⟩ := info_parts Try.infoPc
    have HLIT := Lib.hid hlit
    have HB := Lib.hid hb
    have hcell : Hid (∀ j u, (pcsCells ps)[j]? = some u → (w.alloc (.cells #[] 56)).cell? (a.add j) = some u) := Lib.hid (fun j u hj => by
      have hj' : j < ps.length * 2 := by rw [← pcsCells_length]; exact (List.getElem?_eq_some_iff.1 hj).1
      obtain ⟨b, off, e, hlt, _, hc⟩ := hat (by omega)
      cases e
      rw [Addr.add_lit]
      exact (hb.cell (p := ⟨b, off + j, none⟩) hlt).trans (pcsCells_of ps hc j u hj))
    generalize hn : ps.length = n at *
    have HN := Lib.hid hn
    have HI := Lib.hid hi
    have HLEN := Lib.hid (show (pcsCells ps).length = n * 2 by rw [pcsCells_length]; omega)
    have HONE := Lib.hid (pcsCells_one ps)
    have HMX := Lib.hid (show 0 + n ≤ maxLen by unfold maxLen; omega)
    have HBY := Lib.hid (show (0 + n) * 16 ≤ 140737488355328 by omega)
    have HBS := Lib.hid (show w.heap.size ≤ (w.alloc (.cells #[] 56)).heap.size by simp)
    clear hat hlit hb hn
    go_enter Try.func49, Try.ntmps49
    go_wp2_with (at_builtin; refine wpList_append_own _ rfl _ _ 35 rfl w.heap.size 56 i (.agg #[.int .i64 0, .int .u64 0]) 2 16 Try.underlying35 HI.out hz0 hz1 hz2 rfl (by decide) _ 0 [] rfl HLIT.out a n _ (pcsCells ps) rfl HLEN.out hcell.out HONE.out HMX.out HBY.out HBS.out ?_)
    intro v2 w2 hown2 hg2 _
    have HO2 := Lib.hid hown2
    have HB2 := Lib.hid (HB.out.trans ((Below.refl w.heap.size _).grown hg2 (by simp) (fun k hk => by cases hk; exact Nat.le_refl _)))
    clear hown2 hg2
    go_wp2
    go_ret
    have h := HO2.out
    rw [← HN.out] at h
    exact ⟨_, rfl, pcs_of_own h, HB2.out⟩

/-- What a call answers: this place, its pieces in blocks of F. -/
def RetPl (F : Nat → Prop) (x : Pl) (w : World) (e : Ending) (w' : World) : Prop := ∃ v, e = .returned (plA v x) ∧ PcsIn F w' v x.ps ∧ Below w.heap.size w w'
theorem one4 (a b c : Int) (A : Option Addr) (n d : Nat) : (#[.int .i64 a, .int .i64 b, .int .i64 c, .slice A n d] : Array Value).all (·.oneCell') = true := by simp [Value.oneCell']
theorem below_row16 {B g : Nat} {a w : World} (h : Below B a w) (hg : B ≤ g) (cs : Array Value) : Below B a (w.setRow g cs) := h.trans ⟨rfl, rfl, rfl, by simp, fun k hk => setRow_other _ _ _ _ (by omega)⟩
end Go.Proofs.Ytincbilobmhgeaa

/-
  The program's words on two places of a unit: a place, the same spot, moved, came, resized.
  Conditions: the values read as places.
-/
set_option linter.unusedVariables false
set_option linter.unusedSimpArgs false
namespace Go.Proofs.Ytincbilobmhgeaa
open Go.RowKit

def isB (x : Pl) : Bool := x.u != 0
def spotB (x y : Pl) : Bool := decide (x.c = y.c) && decide (x.ps = y.ps)
def mvB (x y : Pl) : Bool := isB x && isB y && !spotB x y
def cmB (x y : Pl) : Bool := !isB x && isB y
def rsB (x y : Pl) : Bool := isB x && isB y && (x.s != y.s)

set_option maxHeartbeats 1000000 in
theorem isPlace_any (v : Value) (x : Pl) (w : World) (h : PcsAt w v x.ps) : Calls Try.prog 26 #[plA v x] w (RetB (.bool (isB x)) w) := by
  obtain ⟨A, c, rfl⟩ := h.form
  obtain ⟨xu, xs, xc, ps⟩ := x
  unfold isB
  simp only
  obtain ⟨n, hn⟩ : ∃ n, ps.length = n := ⟨_, rfl⟩
  obtain ⟨B, hB⟩ : ∃ B, (xu != 0) = B := ⟨_, rfl⟩
  obtain ⟨w1, P, hw1, hP, hPl, hb1, hbox⟩ := box_any w #[.int .i64 xu, .int .i64 xs, .int .i64 xc, .slice A n c] 37
  obtain ⟨p0, p1, p2, p3⟩ := four_heads hbox
  have HB1 := Lib.hid hb1
  unfold plA
  simp only [hn, hB]
  clear h hn hb1 hbox
  go_enter Try.func26, Try.ntmps26
  go_wp2_with fail
  go_ret
  exact ⟨rfl, HB1.out⟩

set_option maxRecDepth 100000 in
set_option maxHeartbeats 4000000 in
theorem sameSpot_any (u v : Value) (x y : Pl) (w : World) (hs : PcsAt w u x.ps) (ht : PcsAt w v y.ps) :
    Calls Try.prog 27 #[plA u x, plA v y] w (RetB (.bool (spotB x y)) w) := by
  have HA := Lib.hid hs
  have HB := Lib.hid ht
  obtain ⟨A, c, rfl⟩ := hs.form
  obtain ⟨B, d, rfl⟩ := ht.form
  obtain ⟨xu, xs, xc, ps⟩ := x
  obtain ⟨yu, ys, yc, qs⟩ := y
  simp only at *
  obtain ⟨n, hn⟩ : ∃ n, ps.length = n := ⟨_, rfl⟩
  obtain ⟨m, hm⟩ : ∃ m, qs.length = m := ⟨_, rfl⟩
  rw [hn] at HA
  rw [hm] at HB
  obtain ⟨w1, P, hw1, hP, hPl, hb1, hbox⟩ := box_any w #[.int .i64 xu, .int .i64 xs, .int .i64 xc, .slice A n c] 37
  obtain ⟨w2, X, hw2, hX, hXl, hb2, hxbox⟩ := box_any w1 #[.int .i64 yu, .int .i64 ys, .int .i64 yc, .slice B m d] 37
  have HB2 := Lib.hid (hb1.trans (hb2.mono hb1.size))
  have HPB := Lib.hid (keep_block hbox hb2)
  obtain ⟨p0, p1, p2, p3⟩ := four_heads HPB.out
  obtain ⟨q0, q1, q2, q3⟩ := four_heads hxbox
  have HA2 := Lib.hid (HA.out.keep HB2.out)
  have HBB2 := Lib.hid (HB.out.keep HB2.out)
  unfold plA spotB
  simp only [hn, hm]
  clear hs ht hn hm hb1 hb2 hbox hxbox
  have HEQ := Lib.hid (equalPc_any (.slice A n c) (.slice B m d) ps qs w2 HA2.out HBB2.out)
  obtain ⟨E, hE⟩ : ∃ E, decide (ps = qs) = E := ⟨_, rfl⟩
  rw [hE] at HEQ ⊢
  clear hE
  by_cases h3 : xc = yc
  · have e3 : (xc == yc) = true := by simpa using h3
    rw [decide_eq_true h3, Bool.true_and]
    clear h3
    go_enter Try.func27, Try.ntmps27
    go_wp2_with fail
    refine HEQ.out.mono ?_
    rintro e w3 ⟨rfl, hb3⟩
    have HB3 := Lib.hid (HB2.out.trans (hb3.mono HB2.out.size))
    clear hb3
    go_wp2_with fail
    go_ret
    exact ⟨rfl, HB3.out⟩
  · have e3 : (xc == yc) = false := by simpa using h3
    rw [decide_eq_false h3, Bool.false_and]
    clear h3
    go_enter Try.func27, Try.ntmps27
    go_wp2_with fail
    go_ret
    exact ⟨rfl, HB2.out⟩

set_option maxRecDepth 100000 in
set_option maxHeartbeats 4000000 in
theorem movedK_any (u v : Value) (x y : Pl) (w : World) (hs : PcsAt w u x.ps) (ht : PcsAt w v y.ps) :
    Calls Try.prog 25 #[plA u x, plA v y] w (RetB (.bool (mvB x y)) w) := by
  have HIX := Lib.hid (fun W h => isPlace_any u x W h)
  have HIY := Lib.hid (fun W h => isPlace_any v y W h)
  have HSP := Lib.hid (fun W h h' => sameSpot_any u v x y W h h')
  unfold mvB
  obtain ⟨b1, h1⟩ : ∃ b, isB x = b := ⟨_, rfl⟩
  obtain ⟨b2, h2⟩ : ∃ b, isB y = b := ⟨_, rfl⟩
  obtain ⟨b3, h3⟩ : ∃ b, spotB x y = b := ⟨_, rfl⟩
  rw [h1] at HIX ⊢
  rw [h2] at HIY ⊢
  rw [h3] at HSP
  (try rw [h3])
  clear h1 h2 h3
  have HA := Lib.hid hs
  have HB := Lib.hid ht
  obtain ⟨A, c, rfl⟩ := hs.form
  obtain ⟨B, d, rfl⟩ := ht.form
  obtain ⟨xu, xs, xc, ps⟩ := x
  obtain ⟨yu, ys, yc, qs⟩ := y
  simp only at *
  obtain ⟨n, hn⟩ : ∃ n, ps.length = n := ⟨_, rfl⟩
  obtain ⟨m, hm⟩ : ∃ m, qs.length = m := ⟨_, rfl⟩
  unfold plA at HIX HIY HSP ⊢
  simp only at HIX HIY HSP ⊢
  rw [hn] at HA HIX HSP ⊢
  rw [hm] at HB HIY HSP ⊢
  obtain ⟨w1, P, hw1, hP, hPl, hb1, hbox⟩ := box_any w #[.int .i64 xu, .int .i64 xs, .int .i64 xc, .slice A n c] 37
  obtain ⟨w2, X, hw2, hX, hXl, hb2, hxbox⟩ := box_any w1 #[.int .i64 yu, .int .i64 ys, .int .i64 yc, .slice B m d] 37
  have HB2 := Lib.hid (hb1.trans (hb2.mono hb1.size))
  have HPB := Lib.hid (keep_block hbox hb2)
  have HXB := Lib.hid hxbox
  obtain ⟨p0, p1, p2, p3⟩ := four_heads HPB.out
  obtain ⟨q0, q1, q2, q3⟩ := four_heads hxbox
  have HA2 := Lib.hid (HA.out.keep HB2.out)
  have HBB2 := Lib.hid (HB.out.keep HB2.out)
  clear hs ht hn hm hb1 hb2 hbox hxbox
  cases b1 with
  | false =>
    go_enter Try.func25, Try.ntmps25
    go_wp2_with fail
    clear p0 p1 p2 p3 q0 q1 q2 q3
    refine (HIX.out _ HA2.out).mono ?_
    rintro e w3 ⟨rfl, hb3⟩
    have HB3 := Lib.hid (HB2.out.trans (hb3.mono HB2.out.size))
    have HC3 := Lib.hid (hb3)
    obtain ⟨p0, p1, p2, p3⟩ := four_heads (keep_block HPB.out HC3.out)
    obtain ⟨q0, q1, q2, q3⟩ := four_heads (keep_block HXB.out HC3.out)
    clear hb3
    go_wp2_with fail
    go_ret
    exact ⟨rfl, HB3.out⟩
  | true =>
    cases b2 with
    | false =>
      go_enter Try.func25, Try.ntmps25
      go_wp2_with fail
      clear p0 p1 p2 p3 q0 q1 q2 q3
      refine (HIX.out _ HA2.out).mono ?_
      rintro e w3 ⟨rfl, hb3⟩
      have HB3 := Lib.hid (HB2.out.trans (hb3.mono HB2.out.size))
      have HC3 := Lib.hid (hb3)
      obtain ⟨p0, p1, p2, p3⟩ := four_heads (keep_block HPB.out HC3.out)
      obtain ⟨q0, q1, q2, q3⟩ := four_heads (keep_block HXB.out HC3.out)
      clear hb3
      go_wp2_with fail
      clear p0 p1 p2 p3 q0 q1 q2 q3
      refine (HIY.out _ (HBB2.out.keep HC3.out)).mono ?_
      rintro e w4 ⟨rfl, hb4⟩
      have HB4 := Lib.hid (HB3.out.trans (hb4.mono HB3.out.size))
      have HC4 := Lib.hid (HC3.out.trans (hb4.mono HC3.out.size))
      obtain ⟨p0, p1, p2, p3⟩ := four_heads (keep_block HPB.out HC4.out)
      obtain ⟨q0, q1, q2, q3⟩ := four_heads (keep_block HXB.out HC4.out)
      clear hb4
      go_wp2_with fail
      go_ret
      exact ⟨rfl, HB4.out⟩
    | true =>
      go_enter Try.func25, Try.ntmps25
      go_wp2_with fail
      clear p0 p1 p2 p3 q0 q1 q2 q3
      refine (HIX.out _ HA2.out).mono ?_
      rintro e w3 ⟨rfl, hb3⟩
      have HB3 := Lib.hid (HB2.out.trans (hb3.mono HB2.out.size))
      have HC3 := Lib.hid (hb3)
      obtain ⟨p0, p1, p2, p3⟩ := four_heads (keep_block HPB.out HC3.out)
      obtain ⟨q0, q1, q2, q3⟩ := four_heads (keep_block HXB.out HC3.out)
      clear hb3
      go_wp2_with fail
      clear p0 p1 p2 p3 q0 q1 q2 q3
      refine (HIY.out _ (HBB2.out.keep HC3.out)).mono ?_
      rintro e w4 ⟨rfl, hb4⟩
      have HB4 := Lib.hid (HB3.out.trans (hb4.mono HB3.out.size))
      have HC4 := Lib.hid (HC3.out.trans (hb4.mono HC3.out.size))
      obtain ⟨p0, p1, p2, p3⟩ := four_heads (keep_block HPB.out HC4.out)
      obtain ⟨q0, q1, q2, q3⟩ := four_heads (keep_block HXB.out HC4.out)
      clear hb4
      go_wp2_with fail
      clear p0 p1 p2 p3 q0 q1 q2 q3
      refine (HSP.out _ (HA2.out.keep HC4.out) (HBB2.out.keep HC4.out)).mono ?_
      rintro e w5 ⟨rfl, hb5⟩
      have HB5 := Lib.hid (HB4.out.trans (hb5.mono HB4.out.size))
      have HC5 := Lib.hid (HC4.out.trans (hb5.mono HC4.out.size))
      obtain ⟨p0, p1, p2, p3⟩ := four_heads (keep_block HPB.out HC5.out)
      obtain ⟨q0, q1, q2, q3⟩ := four_heads (keep_block HXB.out HC5.out)
      clear hb5
      go_wp2_with fail
      go_ret
      exact ⟨rfl, HB5.out⟩

set_option maxRecDepth 100000 in
set_option maxHeartbeats 4000000 in
theorem cameK_any (u v : Value) (x y : Pl) (w : World) (hs : PcsAt w u x.ps) (ht : PcsAt w v y.ps) :
    Calls Try.prog 30 #[plA u x, plA v y] w (RetB (.bool (cmB x y)) w) := by
  have HIX := Lib.hid (fun W h => isPlace_any u x W h)
  have HIY := Lib.hid (fun W h => isPlace_any v y W h)
  have HSP := Lib.hid (fun W h h' => sameSpot_any u v x y W h h')
  unfold cmB
  obtain ⟨b1, h1⟩ : ∃ b, isB x = b := ⟨_, rfl⟩
  obtain ⟨b2, h2⟩ : ∃ b, isB y = b := ⟨_, rfl⟩
  obtain ⟨b3, h3⟩ : ∃ b, spotB x y = b := ⟨_, rfl⟩
  rw [h1] at HIX ⊢
  rw [h2] at HIY ⊢
  rw [h3] at HSP
  (try rw [h3])
  clear h1 h2 h3
  have HA := Lib.hid hs
  have HB := Lib.hid ht
  obtain ⟨A, c, rfl⟩ := hs.form
  obtain ⟨B, d, rfl⟩ := ht.form
  obtain ⟨xu, xs, xc, ps⟩ := x
  obtain ⟨yu, ys, yc, qs⟩ := y
  simp only at *
  obtain ⟨n, hn⟩ : ∃ n, ps.length = n := ⟨_, rfl⟩
  obtain ⟨m, hm⟩ : ∃ m, qs.length = m := ⟨_, rfl⟩
  unfold plA at HIX HIY HSP ⊢
  simp only at HIX HIY HSP ⊢
  rw [hn] at HA HIX HSP ⊢
  rw [hm] at HB HIY HSP ⊢
  obtain ⟨w1, P, hw1, hP, hPl, hb1, hbox⟩ := box_any w #[.int .i64 xu, .int .i64 xs, .int .i64 xc, .slice A n c] 37
  obtain ⟨w2, X, hw2, hX, hXl, hb2, hxbox⟩ := box_any w1 #[.int .i64 yu, .int .i64 ys, .int .i64 yc, .slice B m d] 37
  have HB2 := Lib.hid (hb1.trans (hb2.mono hb1.size))
  have HPB := Lib.hid (keep_block hbox hb2)
  have HXB := Lib.hid hxbox
  obtain ⟨p0, p1, p2, p3⟩ := four_heads HPB.out
  obtain ⟨q0, q1, q2, q3⟩ := four_heads hxbox
  have HA2 := Lib.hid (HA.out.keep HB2.out)
  have HBB2 := Lib.hid (HB.out.keep HB2.out)
  clear hs ht hn hm hb1 hb2 hbox hxbox
  cases b1 with
  | false =>
    go_enter Try.func30, Try.ntmps30
    go_wp2_with fail
    clear p0 p1 p2 p3 q0 q1 q2 q3
    refine (HIX.out _ HA2.out).mono ?_
    rintro e w3 ⟨rfl, hb3⟩
    have HB3 := Lib.hid (HB2.out.trans (hb3.mono HB2.out.size))
    have HC3 := Lib.hid (hb3)
    obtain ⟨p0, p1, p2, p3⟩ := four_heads (keep_block HPB.out HC3.out)
    obtain ⟨q0, q1, q2, q3⟩ := four_heads (keep_block HXB.out HC3.out)
    clear hb3
    go_wp2_with fail
    clear p0 p1 p2 p3 q0 q1 q2 q3
    refine (HIY.out _ (HBB2.out.keep HC3.out)).mono ?_
    rintro e w4 ⟨rfl, hb4⟩
    have HB4 := Lib.hid (HB3.out.trans (hb4.mono HB3.out.size))
    have HC4 := Lib.hid (HC3.out.trans (hb4.mono HC3.out.size))
    obtain ⟨p0, p1, p2, p3⟩ := four_heads (keep_block HPB.out HC4.out)
    obtain ⟨q0, q1, q2, q3⟩ := four_heads (keep_block HXB.out HC4.out)
    clear hb4
    go_wp2_with fail
    go_ret
    exact ⟨rfl, HB4.out⟩
  | true =>
    go_enter Try.func30, Try.ntmps30
    go_wp2_with fail
    clear p0 p1 p2 p3 q0 q1 q2 q3
    refine (HIX.out _ HA2.out).mono ?_
    rintro e w3 ⟨rfl, hb3⟩
    have HB3 := Lib.hid (HB2.out.trans (hb3.mono HB2.out.size))
    have HC3 := Lib.hid (hb3)
    obtain ⟨p0, p1, p2, p3⟩ := four_heads (keep_block HPB.out HC3.out)
    obtain ⟨q0, q1, q2, q3⟩ := four_heads (keep_block HXB.out HC3.out)
    clear hb3
    go_wp2_with fail
    go_ret
    exact ⟨rfl, HB3.out⟩

set_option maxRecDepth 100000 in
set_option maxHeartbeats 4000000 in
theorem resizedK_any (u v : Value) (x y : Pl) (w : World) (hs : PcsAt w u x.ps) (ht : PcsAt w v y.ps) :
    Calls Try.prog 31 #[plA u x, plA v y] w (RetB (.bool (rsB x y)) w) := by
  have HIX := Lib.hid (fun W h => isPlace_any u x W h)
  have HIY := Lib.hid (fun W h => isPlace_any v y W h)
  have HSP := Lib.hid (fun W h h' => sameSpot_any u v x y W h h')
  unfold rsB
  obtain ⟨b1, h1⟩ : ∃ b, isB x = b := ⟨_, rfl⟩
  obtain ⟨b2, h2⟩ : ∃ b, isB y = b := ⟨_, rfl⟩
  obtain ⟨b3, h3⟩ : ∃ b, spotB x y = b := ⟨_, rfl⟩
  rw [h1] at HIX ⊢
  rw [h2] at HIY ⊢
  rw [h3] at HSP
  (try rw [h3])
  clear h1 h2 h3
  have HA := Lib.hid hs
  have HB := Lib.hid ht
  obtain ⟨A, c, rfl⟩ := hs.form
  obtain ⟨B, d, rfl⟩ := ht.form
  obtain ⟨xu, xs, xc, ps⟩ := x
  obtain ⟨yu, ys, yc, qs⟩ := y
  simp only at *
  obtain ⟨n, hn⟩ : ∃ n, ps.length = n := ⟨_, rfl⟩
  obtain ⟨m, hm⟩ : ∃ m, qs.length = m := ⟨_, rfl⟩
  unfold plA at HIX HIY HSP ⊢
  simp only at HIX HIY HSP ⊢
  rw [hn] at HA HIX HSP ⊢
  rw [hm] at HB HIY HSP ⊢
  obtain ⟨w1, P, hw1, hP, hPl, hb1, hbox⟩ := box_any w #[.int .i64 xu, .int .i64 xs, .int .i64 xc, .slice A n c] 37
  obtain ⟨w2, X, hw2, hX, hXl, hb2, hxbox⟩ := box_any w1 #[.int .i64 yu, .int .i64 ys, .int .i64 yc, .slice B m d] 37
  have HB2 := Lib.hid (hb1.trans (hb2.mono hb1.size))
  have HPB := Lib.hid (keep_block hbox hb2)
  have HXB := Lib.hid hxbox
  obtain ⟨p0, p1, p2, p3⟩ := four_heads HPB.out
  obtain ⟨q0, q1, q2, q3⟩ := four_heads hxbox
  have HA2 := Lib.hid (HA.out.keep HB2.out)
  have HBB2 := Lib.hid (HB.out.keep HB2.out)
  clear hs ht hn hm hb1 hb2 hbox hxbox
  cases b1 with
  | false =>
    go_enter Try.func31, Try.ntmps31
    go_wp2_with fail
    clear p0 p1 p2 p3 q0 q1 q2 q3
    refine (HIX.out _ HA2.out).mono ?_
    rintro e w3 ⟨rfl, hb3⟩
    have HB3 := Lib.hid (HB2.out.trans (hb3.mono HB2.out.size))
    have HC3 := Lib.hid (hb3)
    obtain ⟨p0, p1, p2, p3⟩ := four_heads (keep_block HPB.out HC3.out)
    obtain ⟨q0, q1, q2, q3⟩ := four_heads (keep_block HXB.out HC3.out)
    clear hb3
    go_wp2_with fail
    go_ret
    exact ⟨rfl, HB3.out⟩
  | true =>
    cases b2 with
    | false =>
      go_enter Try.func31, Try.ntmps31
      go_wp2_with fail
      clear p0 p1 p2 p3 q0 q1 q2 q3
      refine (HIX.out _ HA2.out).mono ?_
      rintro e w3 ⟨rfl, hb3⟩
      have HB3 := Lib.hid (HB2.out.trans (hb3.mono HB2.out.size))
      have HC3 := Lib.hid (hb3)
      obtain ⟨p0, p1, p2, p3⟩ := four_heads (keep_block HPB.out HC3.out)
      obtain ⟨q0, q1, q2, q3⟩ := four_heads (keep_block HXB.out HC3.out)
      clear hb3
      go_wp2_with fail
      clear p0 p1 p2 p3 q0 q1 q2 q3
      refine (HIY.out _ (HBB2.out.keep HC3.out)).mono ?_
      rintro e w4 ⟨rfl, hb4⟩
      have HB4 := Lib.hid (HB3.out.trans (hb4.mono HB3.out.size))
      have HC4 := Lib.hid (HC3.out.trans (hb4.mono HC3.out.size))
      obtain ⟨p0, p1, p2, p3⟩ := four_heads (keep_block HPB.out HC4.out)
      obtain ⟨q0, q1, q2, q3⟩ := four_heads (keep_block HXB.out HC4.out)
      clear hb4
      go_wp2_with fail
      go_ret
      exact ⟨rfl, HB4.out⟩
    | true =>
      go_enter Try.func31, Try.ntmps31
      go_wp2_with fail
      clear p0 p1 p2 p3 q0 q1 q2 q3
      refine (HIX.out _ HA2.out).mono ?_
      rintro e w3 ⟨rfl, hb3⟩
      have HB3 := Lib.hid (HB2.out.trans (hb3.mono HB2.out.size))
      have HC3 := Lib.hid (hb3)
      obtain ⟨p0, p1, p2, p3⟩ := four_heads (keep_block HPB.out HC3.out)
      obtain ⟨q0, q1, q2, q3⟩ := four_heads (keep_block HXB.out HC3.out)
      clear hb3
      go_wp2_with fail
      clear p0 p1 p2 p3 q0 q1 q2 q3
      refine (HIY.out _ (HBB2.out.keep HC3.out)).mono ?_
      rintro e w4 ⟨rfl, hb4⟩
      have HB4 := Lib.hid (HB3.out.trans (hb4.mono HB3.out.size))
      have HC4 := Lib.hid (HC3.out.trans (hb4.mono HC3.out.size))
      obtain ⟨p0, p1, p2, p3⟩ := four_heads (keep_block HPB.out HC4.out)
      obtain ⟨q0, q1, q2, q3⟩ := four_heads (keep_block HXB.out HC4.out)
      clear hb4
      go_wp2_with fail
      go_ret
      exact ⟨rfl, HB4.out⟩
end Go.Proofs.Ytincbilobmhgeaa

/-
  Maps of the call's own from units to places.
  Conditions: none.
-/
set_option linter.unusedVariables false
set_option linter.unusedSimpArgs false
namespace Go.Proofs.Ytincbilobmhgeaa
open Go.RowKit Go.Maps

theorem keyedInt : Keyed Try.prog 3 := int_keyed Try.underlying3
theorem key_int (q : Int) (h0 : -9223372036854775808 ≤ q) (h1 : q ≤ 9223372036854775807) : keyOf Try.prog 3 (.int .i64 q) = some (.int .i64 q) := keyOf_int_mk Try.underlying3 (WalkArith.wf_i64 ⟨h0, h1⟩)
theorem lit_ne {a b : Int} (h : a ≠ b) : (Lit.int .i64 a) ≠ (Lit.int .i64 b) := by intro e; injection e with _ e; exact h e
theorem keyLit_int (q : Int) : WideAt.IsKeyLit (.int .i64 q) := by first | exact trivial | simp [WideAt.IsKeyLit] | exact ⟨_, _, rfl⟩
/-- How a place reads as an element: as it stands. -/
def elemP (v : Value) : Option (DataW Value × List MemPlace) := some (.held v, [])
def zeroPA : Value := .agg #[.int .i64 0, .int .i64 0, .int .i64 0, .slice none 0 0]
theorem zeroPlV (w : World) : (zeroValue 37).run Try.prog w = .ok zeroPA w := by kernel_rfl
theorem zeroPA_pl : zeroPA = plA (.slice none 0 0) zeroPl := rfl
abbrev Own22 (W : World) (mb cn : Nat) (D : DataW Value) : Prop := W.ownsMap Try.prog 3 elemP mb cn D
theorem own22_keep {w w' : World} {mb n : Nat} {D : DataW Value} (h : Own22 w mb n D) (e : w'.heap[mb]? = w.heap[mb]?) : Own22 w' mb n D := by
  obtain ⟨es, clock, hb, r⟩ := h
  exact ⟨es, clock, e.trans hb, r⟩
/-- A unit's place, or none at all. -/
def plF (F : Int → Option Pl) (q : Int) : Pl := (F q).getD zeroPl
def updF (F : Int → Option Pl) (q : Int) (x : Option Pl) : Int → Option Pl := fun y => if y = q then x else F y
/-- Block mb is a map of places: of each unit that F has, its place. -/
structure MapF (W : World) (mb cn : Nat) (F : Int → Option Pl) (V : Int → Value) (D : DataW Value) : Prop where
  own : Own22 W mb cn D
  val : ∀ q, D.atKey (.int .i64 q) (.held zeroPA) = .held (plA (V q) (plF F q))
  has_ : ∀ q, Maps.has D (.int .i64 q) = (F q).isSome
  pcs : ∀ q, PcsAt W (V q) (plF F q).ps
/-- The same, of at most N units. -/
def MapX (W : World) (mb N : Nat) (F : Int → Option Pl) : Prop := ∃ V D, MapF W mb N F V D
theorem MapX.lt {W : World} {mb N : Nat} {F : Int → Option Pl} (h : MapX W mb N F) : mb < W.heap.size := by
  obtain ⟨V, D, h⟩ := h
  exact h.own.lt
theorem MapX.mono {W : World} {mb N N' : Nat} {F : Int → Option Pl} (h : MapX W mb N F) (hn : N ≤ N') : MapX W mb N' F := by
  obtain ⟨V, D, h⟩ := h
  exact ⟨V, D, h.own.mono hn, h.val, h.has_, h.pcs⟩
theorem MapX.new (w : World) : MapX (w.alloc (.map #[] 0)) w.heap.size 0 (fun _ => none) :=
  ⟨fun _ => .slice none 0 0, .map [], World.ownsMap_made w _ _ _, fun q => rfl, fun q => rfl, fun q => PcsIn.nil _ _⟩
/-- Pieces don't lie in a map's block. -/
theorem pcsM_apart {W : World} {mb : Nat} {es : Array MapEntry} {clock : Nat} (hm : W.heap[mb]? = some (.map es clock)) {v : Value} {ps : List Pc} (h : PcsAt W v ps) : PcsIn (fun b => b ≠ mb) W v ps := by
  obtain ⟨A, c, h1, h2, h3, h4⟩ := h
  refine ⟨A, c, h1, h2, h3, fun hn => ?_⟩
  obtain ⟨b, off, e, hlt, hf, hc⟩ := h4 hn
  refine ⟨b, off, e, hlt, fun e' => ?_, hc⟩
  subst e'
  obtain ⟨y, hy⟩ := exP_at (xs := ps) (k := 0) hn
  have h5 := (hc 0 y hy).1
  simp [World.cell?, hm] at h5
theorem plsM_apart {W : World} {mb : Nat} {es : Array MapEntry} {clock : Nat} (hm : W.heap[mb]? = some (.map es clock)) {v : Value} {l : List Pl} (h : PlsAt W v l) : PlsIn (fun b => b ≠ mb) W v l := by
  obtain ⟨ls, rfl, A, c, h1, h2, h3, h4, h5⟩ := h
  refine ⟨ls, rfl, A, c, h1, h2, h3, fun hn => ?_, fun p hp => pcsM_apart hm (h5 p hp)⟩
  obtain ⟨b, off, e, hlt, hf, hc⟩ := h4 hn
  refine ⟨b, off, e, hlt, fun e' => ?_, hc⟩
  subst e'
  obtain ⟨p, hp⟩ := exP_at (xs := ls) (k := 0) hn
  have h6 := (hc 0 p hp).1
  simp [World.cell?, hm] at h6
/-- Where the map's block and what lies below are as they were, so is the map. -/
theorem MapX.keepF {W W' : World} {mb N : Nat} {F : Int → Option Pl} (h : MapX W mb N F) (G : Nat → Prop) (hs : W.heap.size ≤ W'.heap.size) (hk : ∀ b, b < W.heap.size → ¬ G b → W'.heap[b]? = W.heap[b]?) (hg : ∀ b, b < W.heap.size → G b → ∃ es cl, W.heap[b]? = some (.map es cl)) (hm : ¬ G mb) : MapX W' mb N F := by
  obtain ⟨V, D, h⟩ := h
  refine ⟨V, D, own22_keep h.own (hk mb h.own.lt hm), h.val, h.has_, fun q => ?_⟩
  have h0 := h.pcs q
  have h1 : PcsIn (fun b => ¬ G b) W (V q) (plF F q).ps := by
    obtain ⟨A, c, e1, e2, e3, e4⟩ := h0
    refine ⟨A, c, e1, e2, e3, fun hn => ?_⟩
    obtain ⟨b, off, e, hlt, hf, hc⟩ := e4 hn
    refine ⟨b, off, e, hlt, fun hGb => ?_, hc⟩
    obtain ⟨es, cl, hb⟩ := hg b hlt hGb
    obtain ⟨y, hy⟩ := exP_at (xs := (plF F q).ps) (k := 0) hn
    have h5 := (hc 0 y hy).1
    simp [World.cell?, hb] at h5
  exact (h1.keepF hs fun b hb hGb => hk b hb hGb).any
theorem MapX.keep {W W' : World} {mb N : Nat} {F : Int → Option Pl} (h : MapX W mb N F) (hb : Below W.heap.size W W') : MapX W' mb N F :=
  h.keepF (fun _ => False) hb.size (fun b hlt _ => hb.block b hlt) (fun b _ hf => hf.elim) (fun hf => hf)
/-- Another map is written. -/
theorem MapX.beside {W W' : World} {mb mo N : Nat} {F : Int → Option Pl} (h : MapX W mb N F) (hg : W.grownBy W' (some mo)) (hne : mb ≠ mo) (ho : ∃ es cl, W.heap[mo]? = some (.map es cl)) : MapX W' mb N F :=
  h.keepF (fun b => b = mo) hg.size (fun b hlt hn => hg.block b hlt fun e => hn (Option.some.inj e)) (fun b _ e => e ▸ ho) hne
theorem MapX.isMap {W : World} {mb N : Nat} {F : Int → Option Pl} (h : MapX W mb N F) : ∃ es cl, W.heap[mb]? = some (.map es cl) := by
  obtain ⟨V, D, h⟩ := h
  obtain ⟨es, cl, hb, _⟩ := h.own
  exact ⟨es, cl, hb⟩
theorem plF_some {F : Int → Option Pl} {q : Int} {x : Pl} (h : F q = some x) : plF F q = x := by unfold plF; rw [h]; rfl
theorem plF_upd_same (F : Int → Option Pl) (q : Int) (x : Option Pl) : plF (updF F q x) q = x.getD zeroPl := by unfold plF updF; rw [if_pos rfl]
theorem plF_upd_other (F : Int → Option Pl) {q y : Int} (x : Option Pl) (h : y ≠ q) : plF (updF F q x) y = plF F y := by unfold plF updF; rw [if_neg h]
/-- What lies there, looked up. -/
theorem MapX.look {W : World} {mb N : Nat} {F : Int → Option Pl} (h : MapX W mb N F) {q : Int} (h0 : -9223372036854775808 ≤ q) (h1 : q ≤ 9223372036854775807) :
    ∃ v, (Instr.lookup 57 (.map (some mb)) (.int .i64 q) false).run Try.prog W = .ok (plA v (plF F q)) W ∧ PcsAt W v (plF F q).ps := by
  obtain ⟨V, D, h⟩ := h
  refine ⟨V q, ?_, h.pcs q⟩
  obtain ⟨v, ps, hrun, hv⟩ := h.own.lookup keyedInt Try.underlying57 (zeroPlV W) (zd := .held zeroPA) (zp := []) rfl (key_int q h0 h1)
  rw [h.val q] at hv
  have e : v = plA (V q) (plF F q) := by
    have e := Option.some.inj hv
    simp only [Prod.mk.injEq] at e
    exact DataW.held.inj e.1
  rw [hrun, e]
/-- A store. -/
theorem MapF.put {W W2 : World} {mb cn : Nat} {F : Int → Option Pl} {V : Int → Value} {D : DataW Value} (h : MapF W mb cn F V D) {q : Int} {v : Value} {x : Pl} (hv : PcsAt W v x.ps)
    (ho : Own22 W2 mb (cn + 1) (D.put (.int .i64 q) (.held (plA v x)))) (hg : W.grownBy W2 (some mb)) : MapX W2 mb (cn + 1) (updF F q (some x)) := by
  obtain ⟨es, clock, hb, _⟩ := h.own
  have kp : ∀ {u : Value} {ps : List Pc}, PcsAt W u ps → PcsAt W2 u ps := fun hu => ((pcsM_apart hb hu).keepF hg.size fun b hlt hn => hg.block b hlt fun e => hn (Option.some.inj e)).any
  refine ⟨fun y => if y = q then v else V y, _, ho, fun y => ?_, fun y => ?_, fun y => ?_⟩
  · by_cases e : y = q
    · subst e
      rw [if_pos rfl, plF_upd_same, atKey_put_same h.own.isMap (keyLit_int _)]
      rfl
    · rw [if_neg e, plF_upd_other _ _ e, atKey_put_other (lit_ne e)]
      exact h.val y
  · unfold updF
    by_cases e : y = q
    · subst e
      rw [if_pos rfl, has_put_same h.own.isMap (keyLit_int _)]
      rfl
    · rw [if_neg e, has_put_other (lit_ne e)]
      exact h.has_ y
  · by_cases e : y = q
    · subst e
      rw [if_pos rfl, plF_upd_same]
      exact kp hv
    · rw [if_neg e, plF_upd_other _ _ e]
      exact kp (h.pcs y)
/-- A key struck. -/
theorem MapF.del {W W2 : World} {mb cn : Nat} {F : Int → Option Pl} {V : Int → Value} {D : DataW Value} (h : MapF W mb cn F V D) {q : Int}
    (ho : Own22 W2 mb cn (D.del (.int .i64 q))) (hg : W.grownBy W2 (some mb)) : MapX W2 mb cn (updF F q none) := by
  obtain ⟨es, clock, hb, _⟩ := h.own
  have kp : ∀ {u : Value} {ps : List Pc}, PcsAt W u ps → PcsAt W2 u ps := fun hu => ((pcsM_apart hb hu).keepF hg.size fun b hlt hn => hg.block b hlt fun e => hn (Option.some.inj e)).any
  refine ⟨fun y => if y = q then .slice none 0 0 else V y, _, ho, fun y => ?_, fun y => ?_, fun y => ?_⟩
  · by_cases e : y = q
    · subst e
      rw [if_pos rfl, plF_upd_same, atKey_del_same]
      rfl
    · rw [if_neg e, plF_upd_other _ _ e, atKey_del_other (lit_ne e)]
      exact h.val y
  · unfold updF
    by_cases e : y = q
    · subst e
      rw [if_pos rfl, has_del_same]
      rfl
    · rw [if_neg e, has_del_other (lit_ne e)]
      exact h.has_ y
  · by_cases e : y = q
    · subst e
      rw [if_pos rfl, plF_upd_same]
      exact PcsIn.nil _ _
    · rw [if_neg e, plF_upd_other _ _ e]
      exact kp (h.pcs y)
/-- The keys of a map, as they stand in what it reads as: each once, just those that it has; all of them ints. -/
theorem keys_facts {w : World} {b n : Nat} {D : DataW Value} (h : Own22 w b n D) : (intKeys D).Nodup ∧ (∀ x, x ∈ intKeys D ↔ has D (.int .i64 x) = true) ∧ ∀ x ∈ intKeys D, -9223372036854775808 ≤ x ∧ x ≤ 9223372036854775807 := by
  have hwf := intKeys_wf h Try.underlying3
  obtain ⟨es, hD, hpw, _⟩ := h.entries keyedInt
  obtain ⟨es', hD', hko⟩ := h.keysOf
  obtain rfl : es = es' := by rw [hD] at hD'; simpa using hD'
  subst hD
  have hk : ∀ p ∈ es, ∃ x, p.1 = .int .i64 x := fun p hp => by
    obtain ⟨v, hv⟩ := hko p hp
    obtain ⟨x, _, hx, _⟩ := Maps.keyOf_i64 Try.underlying3 hv
    exact ⟨x, hx⟩
  refine ⟨?_, fun x => ?_, fun x hx => by
    have h2 := hwf x hx
    simp [Lit.wf] at h2
    exact ⟨h2.1, h2.2⟩⟩
  · refine List.pairwise_map.2 (hpw.imp_of_mem fun {p q} hp hq hne e => hne ?_)
    obtain ⟨a, ha⟩ := hk p hp
    obtain ⟨b, hb⟩ := hk q hq
    rw [ha, hb] at e ⊢
    exact congrArg _ e
  · show x ∈ es.map (fun p => intOf p.1) ↔ es.any (fun p => p.1.sameKey (.int .i64 x)) = true
    rw [List.any_eq_true, List.mem_map]
    constructor
    · rintro ⟨p, hp, rfl⟩
      obtain ⟨a, ha⟩ := hk p hp
      exact ⟨p, hp, by rw [ha]; simp [Lit.sameKey, intOf]⟩
    · rintro ⟨p, hp, hs⟩
      obtain ⟨a, ha⟩ := hk p hp
      rw [ha] at hs
      exact ⟨p, hp, by rw [ha]; simpa [Lit.sameKey, intOf] using hs⟩
end Go.Proofs.Ytincbilobmhgeaa
