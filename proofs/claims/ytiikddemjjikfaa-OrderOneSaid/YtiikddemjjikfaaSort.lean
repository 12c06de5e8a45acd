/-
  slices.SortFunc of wants by compare; Sort of the program.
  Conditions: the row is of the caller's own.
-/
import Derived.Test.YtiikddemjjikfaaDelete
import Derived.Test.YtiikddemjjikfaaShelf
import Derived.Test.YtiikddemjjikfaaUnits
import Derived.Shelf.SlSortCmp.NoneTotal
set_option linter.unusedVariables false
namespace Go.Proofs.Ytiikddemjjikfaa
open Go.RowKit Go.Sort Go.Lib

theorem flat_spans (ps : List Sp) : flatK spanCells 2 ps.toArray = (spansCells ps).toArray := by
  apply Array.ext
  · simp [spansCells_length]
  · intro t h1 h2
    have ht : t < ps.length * 2 := by simpa [spansCells_length] using h2
    have hj : t / 2 < ps.length := by omega
    obtain ⟨g1, g2⟩ := spansCells_get ps (t / 2) _ (List.getElem?_eq_getElem hj)
    have e0 : (flatK spanCells 2 ps.toArray)[t]'h1 = (flatK spanCells 2 ps.toArray)[t]! := (getElem!_pos _ t h1).symm
    rw [e0, get_flatK _ _ _ _ (by simpa using ht)]
    have e1 : ps.toArray[t / 2]! = ps[t / 2] := by rw [getElem!_pos ps.toArray (t / 2) (by simpa using hj)]; simp
    rw [e1]
    have e2 : ((spansCells ps).toArray)[t]'h2 = (spansCells ps)[t]'(by simpa using h2) := by simp
    rw [e2]
    rcases Nat.mod_two_eq_zero_or_one t with h | h
    · rw [h]
      have : t / 2 * 2 = t := by omega
      rw [this] at g1
      have := (List.getElem?_eq_some_iff.1 g1).2
      rw [this]; rfl
    · rw [h]
      have : t / 2 * 2 + 1 = t := by omega
      rw [this] at g2
      have := (List.getElem?_eq_some_iff.1 g2).2
      rw [this]; rfl

theorem heap_put {w : World} {g n e : Nat} {os : Array Obj} {cur F : Array Value} (h : w.heap[g]? = some (.cells cur e (0, 0))) :
    (grow (putRow id (Sort.ahead w n) g 0 F) os).heap[g]? = some (.cells (putCells id 0 F cur) e (0, 0)) := by
  have hlt : g < w.heap.size := (Array.getElem?_eq_some_iff.1 h).1
  unfold grow putRow mapBlock Sort.ahead
  show ((w.heap.modify g _) ++ os)[g]? = _
  rw [Array.getElem?_append_left (by simpa using hlt), Array.getElem?_modify, if_pos rfl, h]
  rfl
theorem take_put (cur : Array Value) (F : List Value) (h : F.length ≤ cur.size) : (putCells id 0 F.toArray cur).toList.take F.length = F := by
  apply List.ext_getElem?
  intro j
  by_cases hj : j < F.length
  · rw [List.getElem?_take_of_lt hj, Array.getElem?_toList]
    simp [putCells, hj, show j < cur.size by omega]
  · rw [List.getElem?_take_eq_none (by omega), List.getElem?_eq_none (by omega)]
theorem below_put {w : World} {base g n : Nat} {os : Array Obj} {F : Array Value} (hg : base ≤ g) (hb : base ≤ w.heap.size) : Below base w (grow (putRow id (Sort.ahead w n) g 0 F) os) := by
  refine ⟨rfl, rfl, rfl, ?_, fun k hk => ?_⟩
  · simp [grow, putRow, mapBlock, Sort.ahead]
  · unfold grow putRow mapBlock Sort.ahead
    show ((w.heap.modify g _) ++ os)[k]? = _
    rw [Array.getElem?_append_left (by simp; omega), Array.getElem?_modify, if_neg (by omega)]

theorem ltS (x y : Sp) : ltOf cmpS x y = aheadB x y := cmpS_neg x y
theorem swoS : SWO (ltOf cmpS) where
  irrefl x := by rw [ltS]; exact ahead_irr x
  trans x y z h1 h2 := by rw [ltS] at *; exact ahead_trans h1 h2
  ntrans x y z h1 h2 := by rw [ltS] at *; rw [ahead_no] at *; omega

theorem sortFunc_any (base : Nat) (v : Value) (ps : List Sp) (w : World) (h : w.ownsRow base 38 2 v ps.length (spansCells ps)) (hl : ps.length ≤ 100000) (hbase : base ≤ w.heap.size) :
    Calls Try.prog 31 #[v, .func (.func 32) #[] #[]] w
      (fun e w' => e = .returned (.tuple #[]) ∧ w'.ownsRow base 38 2 v ps.length (spansCells (sortT ps)) ∧ Below base w w') := by
  rcases Nat.eq_zero_or_pos ps.length with h0 | hpos
  · have : ps = [] := List.eq_nil_of_length_eq_zero h0
    subst this
    have hv : ∃ p cap, v = .slice p 0 cap := by
      rcases h.2 with ⟨h1, _⟩ | ⟨g, cap, cur, h1, _⟩
      · exact ⟨_, _, h1⟩
      · exact ⟨_, _, h1⟩
    obtain ⟨p, cap, rfl⟩ := hv
    refine (AnyF.slices_SortFunc_none Try.sort5 p cap _ w).mono ?_
    rintro e w' ⟨rfl, rfl⟩
    exact ⟨rfl, h, Below.refl _ _⟩
  · obtain ⟨g, cap, rfl, hbg, hgl, hncap, hcm, hat, hfr⟩ := own_lies h hpos
    have eg : ∀ args w, (callFunc 32 args).run Try.prog w = .ok (.enter 32 args) w := enters_of Try.func32 (by kernel_rfl) rfl
    have hH : HoldsK spanCells 2 w g 0 ps.toArray := by
      unfold HoldsK
      rw [flat_spans]
      intro j hj
      have hj' : j < ps.length * 2 := by simpa [spansCells_length] using hj
      rw [Nat.zero_add]
      refine ⟨?_, hfr j hj'⟩
      have := spansCells_of (W := w) (b := g) (off := 0) (ps := ps) (fun i p hp => by rw [Nat.zero_add]; exact hat i p hp) j ((spansCells ps)[j]'(by rw [spansCells_length]; exact hj')) (List.getElem?_eq_getElem _)
      rw [Nat.zero_add] at this
      rw [this]
      congr 1
      rw [getElem!_pos _ j hj]
      simp
    have hcon := AnyQ.slices_SortFunc Try.sort5 2 Try.isAgg38 Try.sizeOf38 spanCells (fun _ => rfl) (fun x v hv => by simp [spanCells] at hv; rcases hv with rfl | rfl <;> rfl) cmpS swoS 32 #[] g 0 cap ps.toArray w eg
      (fun m os dk hs x y => compare_any x y _) hH hgl (by simp; omega)
    have hsz : ps.toArray.size = ps.length := by simp
    rw [hsz] at hcon
    refine Calls.mono hcon ?_
    rintro e w' ⟨rfl, d', n, os, hp, hs, rfl⟩
    obtain ⟨p1, p2, p3⟩ := hp
    have hlen : d'.toList.length = ps.length := by rw [Array.length_toList, p1, hsz]
    have hper : d'.toList.Perm ps := by
      have e1 : (d'.extract 0 ps.length).toList = d'.toList := by rw [← hlen]; simp
      have e2 : (ps.toArray.extract 0 ps.length).toList = ps := by simp
      rw [e1, e2] at p3
      exact p3
    have hsor : SortedS d'.toList := by
      unfold SortedS
      rw [List.pairwise_iff_getElem]
      intro i j hi hj hij
      have := hs i j (Nat.zero_le _) hij (by omega)
      rw [ltS] at this
      have e1 : d'[i]! = d'.toList[i] := by rw [getElem!_pos d' i (by rw [← Array.length_toList]; exact hi)]; simp
      have e2 : d'[j]! = d'.toList[j] := by rw [getElem!_pos d' j (by rw [← Array.length_toList]; exact hj)]; simp
      rw [e1, e2] at this
      simpa using this
    have hse : d'.toList = sortT ps := sort_eq hsor hper
    refine ⟨rfl, ?_, ?_⟩
    · obtain ⟨h1, h2⟩ := h
      rcases h2 with ⟨h2, _⟩ | ⟨g', cap', cur, hv, hg, hh, hn, hc, hs', ht⟩
      · cases h2
      · injection hv with e1 e2 e3
        injection e1 with e1
        injection e1 with e1
        subst e1 e3
        rw [← hse]
        have hF : (flatK spanCells 2 d') = (spansCells d'.toList).toArray := by
          have := flat_spans d'.toList
          simpa using this
        refine ⟨by rw [spansCells_length, hlen], .inr ⟨g, cap, _, rfl, hbg, heap_put hh, hn, hc, by simp [putCells, hs'], ?_⟩⟩
        rw [hF]
        have hl2 : (spansCells d'.toList).length = ps.length * 2 := by rw [spansCells_length, hlen]
        rw [← hl2]
        exact take_put cur _ (by rw [hl2, hs']; omega)
    · exact below_put hbg hbase

/-- Sort of the program. -/
theorem sort_any (v : Value) (ps : List Sp) (w : World) (h : SpansAt w v ps) :
    Calls Try.prog 18 #[v] w (RetO w.heap.size 38 (sortT ps) w) := by
  have HL := Lib.hid h.len
  have HC := Lib.hid (clone_any v ps w h)
  clear h
  go_enter Try.func18, Try.ntmps18
  go_wp2_with fail
  refine HC.out.mono ?_
  rintro e w1 ⟨v1, rfl, hown1, hb1⟩
  have HS := Lib.hid (sortFunc_any w.heap.size v1 ps w1 hown1 HL.out hb1.size)
  have HB1 := Lib.hid hb1
  clear hown1 hb1
  go_wp2_with fail
  refine HS.out.mono ?_
  rintro e w2 ⟨rfl, hown2, hb2⟩
  have HB2 := Lib.hid (HB1.out.trans hb2)
  have HO2 := Lib.hid hown2
  clear hown2 hb2
  go_wp2
  go_ret
  refine ⟨_, rfl, ?_, HB2.out⟩
  rw [sortT_length]
  exact HO2.out
end Go.Proofs.Ytiikddemjjikfaa
