/-
  Ticks of a set as a list: the program's and the document's, and the document's Count.
  Conditions: the numbers are of their kinds.
-/
import Derived.Test.YtpjmdnhoiobedaaPlain
import Derived.OwnWalk
import Derived.WalkLawsBesides
set_option linter.unusedVariables false
namespace Go.Proofs.Ytpjmdnhoiobedaa
open Go.RowKit

/-- The ticks below k, as ints. -/
def ticksI (m k : Nat) : List Int := (ticksT m k).map (fun t : Nat => (t : Int))
theorem ticksI_length (m k : Nat) : (ticksI m k).length = cntT m k := by unfold ticksI cntT; rw [List.length_map]
theorem ticksI_yes {m k : Nat} (h : m.testBit k = true) : ticksI m (k + 1) = ticksI m k ++ [(k : Int)] := by
  unfold ticksI
  rw [ticksT_succ, if_pos h, List.map_append]
  rfl
theorem ticksI_no {m k : Nat} (h : m.testBit k = false) : ticksI m (k + 1) = ticksI m k := by
  unfold ticksI
  rw [ticksT_succ, if_neg (by rw [h]; simp)]
theorem ticksI_get {m i : Nat} {x : Int} (h : (ticksI m 64)[i]? = some x) : ∃ j : Nat, x = (j : Int) ∧ (ticks m)[i]? = some j := by
  unfold ticksI at h
  rw [List.getElem?_map] at h
  obtain ⟨j, hj, rfl⟩ := Option.map_eq_some_iff.1 h
  exact ⟨j, rfl, hj⟩

/-- A list that a call answers. -/
def RetL (xs : List Int) (w : World) (e : Ending) (w' : World) : Prop := ∃ v, e = .returned v ∧ IntsAt w' v xs ∧ Below w.heap.size w w'

theorem ints_of_own {W : World} {base : Nat} {v : Value} {xs : List Int} (h : W.ownsRow base 3 1 v xs.length (xs.map (Value.int .i64))) (hl : xs.length ≤ 9223372036854775807) : IntsAt W v xs := by
  obtain ⟨h1, h2⟩ := h
  rcases h2 with ⟨rfl, h0⟩ | ⟨g, cap, cur, rfl, hg, hh, hn, hc, hs, ht⟩
  · have : xs = [] := List.eq_nil_of_length_eq_zero h0
    subst this
    exact IntsAt.nil W
  · refine ⟨_, _, rfl, hl, fun _ => ⟨g, 0, rfl, ?_, fun j x hx => ?_⟩⟩
    · rcases Nat.lt_or_ge g W.heap.size with h' | h'
      · exact h'
      · rw [Array.getElem?_eq_none h'] at hh; cases hh
    · rw [Nat.zero_add, cell_of_row W g j _ _ (0, 0) hh]
      have hj : j < xs.length := (List.getElem?_eq_some_iff.1 hx).1
      have : (cur.toList.take (xs.length * 1))[j]? = some (.int .i64 x) := by rw [ht, List.getElem?_map, hx]; rfl
      rw [List.getElem?_take, if_pos (by omega)] at this
      rw [← this]
      simp

theorem below_grown4 {w w' : World} {row : Option Nat} {B : Nat} (hg : w.grownBy w' row) (hB : B ≤ w.heap.size) (hr : ∀ k, row = some k → B ≤ k) : Below B w w' := (Below.refl B w).grown hg hB hr
theorem own_base4 {w : World} {base e size n : Nat} {v : Value} {xs : List Value} (h : w.ownsRow base e size v n xs) : ∀ k, v.ownBlock = some k → base ≤ k := by
  intro k hk
  rcases h.2 with ⟨h1, _⟩ | ⟨g, cap, cur, h1, h2, _⟩
  · subst h1; cases hk
  · subst h1; cases hk; exact h2

def TicksRel (m : Nat) (w : World) (g : Nat) (s i : Value) (wr : World) : Prop :=
  ∃ k : Nat, k ≤ 64 ∧ g = 64 - k ∧ i = .int .i64 k ∧ Below w.heap.size w wr ∧ wr.ownsRow w.heap.size 3 1 s (ticksI m k).length ((ticksI m k).map (Value.int .i64))

set_option maxRecDepth 100000 in
set_option maxHeartbeats 1000000 in
theorem ticks_any (m : Nat) (w : World) (hm : m < 18446744073709551616) (HC : ∀ W, Calls Try.prog 69 #[.int .u64 m] W (Ret (.int .i64 (cnt m)) W)) :
    Calls Try.prog 44 #[.int .u64 m] w (RetL (ticksI m 64) w) := by
  obtain ⟨i0, hi, hz0, hz1, hz2⟩ := info_parts Try.infoInt
  have HCC := Lib.hid HC
  have hc64 := cnt_le m
  generalize cnt m = c at *
  clear HC
  go_enter Try.func44, Try.ntmps44
  go_wp2_with (first
    | (go_at_call 69; refine (HCC.out _).mono ?_; rintro e w' ⟨rfl, rfl⟩)
    | (at_make; refine wpList_make_own _ rfl _ _ 35 rfl w.heap.size 3 i0 (.int .i64 0) 1 Try.underlying35 hi hz0 hz1 _ _ _ c rfl rfl rfl (by rw [hz2]; omega) (by unfold maxLen; omega) (Nat.le_refl _) ?_; intro w1 hown1 hgrow1))
  have HB0 := Lib.hid (below_grown4 hgrow1 (Nat.le_refl _) (fun k h => by cases h))
  have HO0 := Lib.hid hown1
  clear hown1 hgrow1
  go_loopg [3, 8] 64 (fun g s i wr => TicksRel m w g s i wr)
  case atStart => exact ⟨0, Nat.zero_le _, rfl, rfl, HB0.out, HO0.out⟩
  case round =>
    obtain ⟨k, hk, hg, rfl, hbr, hown⟩ := hrel
    have HG := Lib.hid hg
    have HB := Lib.hid hbr
    have HO := Lib.hid hown
    clear hg hbr hown
    by_cases hlt : k < 64
    · have HH := Lib.hid (fun W => has_any m (k : Int) W hm)
      rw [hasB_nat hlt] at HH
      have hlen : cntT m k ≤ k := cntT_le m k
      rw [ticksI_length] at HO
      generalize hn : cntT m k = n at *
      have HN := Lib.hid hn
      clear hn
      cases hb : m.testBit k
      · have HE := Lib.hid (ticksI_no hb)
        rw [hb] at HH
        clear hb
        go_wp2_with (go_at_call 70; refine (HH.out _).mono ?_; rintro e w' ⟨rfl, rfl⟩)
        go_roundg (64 - (k + 1))
        case measure => have := HG.out; omega
        case rel => exact ⟨k + 1, by omega, rfl, by go_num, HB.out, by rw [HE.out, ticksI_length, HN.out]; exact HO.out⟩
      · have HE := Lib.hid (ticksI_yes hb)
        rw [hb] at HH
        clear hb
        have hsz := HB.out.size
        go_wp2_with (first
          | (go_at_call 70; refine (HH.out _).mono ?_; rintro e w' ⟨rfl, rfl⟩)
          | (at_builtin; refine wpList_append_own _ rfl _ _ 35 rfl w.heap.size 3 i0 (.int .i64 0) 1 8 Try.underlying35 hi hz0 hz1 hz2 rfl (by decide) _ _ _ rfl (HO.out.alloc _) ⟨wr.heap.size, 0, none⟩ 1 1 [.int .i64 k] rfl rfl ?c1 ?c2 ?c3 ?c4 ?c5 ?_))
        case c1 =>
          intro j u hj
          rcases j with _ | j
          · simpa [Addr.add] using hj
          · simp at hj
        case c2 => intro u hu; simp at hu; subst hu; rfl
        case c3 => unfold maxLen; omega
        case c4 => omega
        case c5 => simp; omega
        intro v2 w2 hown2 hgrow _
        have HB2 := Lib.hid ((HB.out.alloc hsz _).trans (below_grown4 hgrow (by simp; omega) (own_base4 HO.out)))
        have HO2 := Lib.hid hown2
        clear hown2 hgrow hsz
        go_wp2
        go_roundg (64 - (k + 1))
        case measure => have := HG.out; omega
        case rel =>
          refine ⟨k + 1, by omega, rfl, by go_num, HB2.out, ?_⟩
          have e := HO2.out
          rw [HE.out, List.length_append, ticksI_length, HN.out, List.map_append]
          exact e
    · have hk64 : k = 64 := by omega
      subst hk64
      have HR := Lib.hid (ints_of_own HO.out (by rw [ticksI_length]; have := cntT_le m 64; omega))
      go_wp2
      go_ret
      exact ⟨_, rfl, HR.out, HB.out⟩

set_option maxRecDepth 100000 in
set_option maxHeartbeats 1000000 in
theorem refTicks_any (m : Nat) (w : World) (hm : m < 18446744073709551616) :
    Calls Try.prog 71 #[.int .u64 m] w (RetL (ticksI m 64) w) := by
  obtain ⟨i0, hi, hz0, hz1, hz2⟩ := info_parts Try.infoInt
  go_enter Try.func71, Try.ntmps71
  go_wp2_with fail
  have HB0 := Lib.hid (show Below w.heap.size w (w.alloc (Obj.cells #[] 3)) from (Below.refl _ _).alloc (Nat.le_refl _) _)
  have HO0 : Hid ((w.alloc (Obj.cells #[] 3)).ownsRow w.heap.size 3 1 (.slice (some ⟨w.heap.size, 0, none⟩) 0 0) 0 []) :=
    ⟨rfl, .inr ⟨w.heap.size, 0, #[], rfl, Nat.le_refl _, heap_alloc_new w _, Nat.le_refl _, Nat.zero_le _, rfl, rfl⟩⟩
  go_loopg [3, 4] 64 (fun g s i wr => TicksRel m w g s i wr)
  case atStart => exact ⟨0, Nat.zero_le _, rfl, rfl, HB0.out, HO0.out⟩
  case round =>
    obtain ⟨k, hk, hg, rfl, hbr, hown⟩ := hrel
    have HG := Lib.hid hg
    have HB := Lib.hid hbr
    have HO := Lib.hid hown
    clear hg hbr hown
    by_cases hlt : k < 64
    · have HH := Lib.hid (fun W => refHas_any m (k : Int) W hm)
      rw [hasB_nat hlt] at HH
      have hlen : cntT m k ≤ k := cntT_le m k
      rw [ticksI_length] at HO
      generalize hn : cntT m k = n at *
      have HN := Lib.hid hn
      clear hn
      cases hb : m.testBit k
      · have HE := Lib.hid (ticksI_no hb)
        rw [hb] at HH
        clear hb
        go_wp2_with (go_at_call 51; refine (HH.out _).mono ?_; rintro e w' ⟨rfl, rfl⟩)
        go_roundg (64 - (k + 1))
        case measure => have := HG.out; omega
        case rel => exact ⟨k + 1, by omega, rfl, by go_num, HB.out, by rw [HE.out, ticksI_length, HN.out]; exact HO.out⟩
      · have HE := Lib.hid (ticksI_yes hb)
        rw [hb] at HH
        clear hb
        have hsz := HB.out.size
        go_wp2_with (first
          | (go_at_call 51; refine (HH.out _).mono ?_; rintro e w' ⟨rfl, rfl⟩)
          | (at_builtin; refine wpList_append_own _ rfl _ _ 35 rfl w.heap.size 3 i0 (.int .i64 0) 1 8 Try.underlying35 hi hz0 hz1 hz2 rfl (by decide) _ _ _ rfl (HO.out.alloc _) ⟨wr.heap.size, 0, none⟩ 1 1 [.int .i64 k] rfl rfl ?c1 ?c2 ?c3 ?c4 ?c5 ?_))
        case c1 =>
          intro j u hj
          rcases j with _ | j
          · simpa [Addr.add] using hj
          · simp at hj
        case c2 => intro u hu; simp at hu; subst hu; rfl
        case c3 => unfold maxLen; omega
        case c4 => omega
        case c5 => simp; omega
        intro v2 w2 hown2 hgrow _
        have HB2 := Lib.hid ((HB.out.alloc hsz _).trans (below_grown4 hgrow (by simp; omega) (own_base4 HO.out)))
        have HO2 := Lib.hid hown2
        clear hown2 hgrow hsz
        go_wp2
        go_roundg (64 - (k + 1))
        case measure => have := HG.out; omega
        case rel =>
          refine ⟨k + 1, by omega, rfl, by go_num, HB2.out, ?_⟩
          have e := HO2.out
          rw [HE.out, List.length_append, ticksI_length, HN.out, List.map_append]
          exact e
    · have hk64 : k = 64 := by omega
      subst hk64
      have HR := Lib.hid (ints_of_own HO.out (by rw [ticksI_length]; have := cntT_le m 64; omega))
      go_wp2
      go_ret
      exact ⟨_, rfl, HR.out, HB.out⟩

theorem refCount_any (m : Nat) (w : World) (hm : m < 18446744073709551616) : Calls Try.prog 49 #[.int .u64 m] w (RetB (.int .i64 (cnt m)) w) := by
  have HT := Lib.hid (refTicks_any m w hm)
  go_enter Try.func49, Try.ntmps49
  go_wp2_with fail
  refine HT.out.mono ?_
  rintro e w1 ⟨v, rfl, hi, hb⟩
  obtain ⟨A, c, rfl, _, _⟩ := hi
  have HB := Lib.hid hb
  clear hb
  rw [ticksI_length]
  go_wp2
  go_ret
  exact ⟨rfl, HB.out⟩
end Go.Proofs.Ytpjmdnhoiobedaa
