/-
  The reference's Code, New, Turn, Wrap over its own chains.
  Conditions: at most 1048576 links.
-/
import Derived.Test.YtciebpijdgdcjaaDoorRefNum
import Derived.Test.YtciebpijdgdcjaaDoorAwake
import Derived.OwnWalk
import Derived.WalkLawsBesides
import Derived.Deep.RegionHeld3
namespace Go.Proofs.YtciebpijdgdcjaaDoor
open Go.RowKit Go.Extern.Stop Go.Stop Go.Extern

theorem Tryd.infoRLink : (Tryd.prog.info? 41).map (fun i => (i.zero, i.size, i.bytes)) = some (some (.agg #[.int .i64 0, .string ⟨#[]⟩, .int .i64 0]), 3, 32) := by kernel_rfl

/-- The reference's links in memory. -/
def RAt (base : Nat) (w : World) (lv : Value) (js : List Item) : Prop := w.ownsRow base 41 3 lv js.length (linksCells js)

theorem RAt.kept {base : Nat} {w w' : World} {lv : Value} {js : List Item} (h : RAt base w lv js) (hb : Below w.heap.size w w') : RAt base w' lv js := ownsRow_below h hb

def rcodeOf (s : Bool) (js : List Item) : Int := match s, js with
  | false, _ => 0
  | true, [] => 6
  | true, j :: _ => j.code

def RCodePost (s : Bool) (js : List Item) (w : World) (e : Ending) (w' : World) : Prop := e = .returned (.int .i64 (rcodeOf s js)) ∧ Below w.heap.size w w'

set_option maxHeartbeats 1000000 in
theorem rcode_none (lv : Value) (js : List Item) (w : World) (hlv : ∃ a n c, lv = .slice a n c) :
    Calls Tryd.prog 10 #[.agg #[.bool false, lv]] w (RCodePost false js w) := by
  obtain ⟨a, n, c, rfl⟩ := hlv
  go_enter Tryd.func10, Tryd.ntmps10
  go_wp2
  go_ret
  exact ⟨rfl, (Below.refl _ _).alloc (Nat.le_refl _) _⟩

set_option maxHeartbeats 1000000 in
theorem rcode_alien (w : World) :
    Calls Tryd.prog 10 #[.agg #[.bool true, .slice none 0 0]] w (RCodePost true [] w) := by
  go_enter Tryd.func10, Tryd.ntmps10
  go_wp2
  go_ret
  exact ⟨rfl, (Below.refl _ _).alloc (Nat.le_refl _) _⟩

set_option maxHeartbeats 1000000 in
theorem rcode_some (g n c : Nat) (j : Item) (js : List Item) (w : World) (hg : g < w.heap.size) (hn : n ≤ 1048576) (h0 : w.cell? ⟨g, 0, none⟩ = some (.int .i64 j.code)) :
    Calls Tryd.prog 10 #[.agg #[.bool true, .slice (some ⟨g, 0, none⟩) (n + 1) c]] w (RCodePost true (j :: js) w) := by
  have h1 : ∀ o, (w.alloc o).cell? ⟨g, 0, none⟩ = some (.int .i64 j.code) := fun o => by rw [World.cell?_alloc_lt _ _ ⟨g, 0, none⟩ hg]; exact h0
  go_enter Tryd.func10, Tryd.ntmps10
  go_wp2
  go_ret
  exact ⟨rfl, (Below.refl _ _).alloc (Nat.le_refl _) _⟩

theorem RAt.slice {base : Nat} {w : World} {lv : Value} {js : List Item} (h : RAt base w lv js) : ∃ a n c, lv = .slice a n c := by
  rcases h.2 with ⟨h1, _⟩ | ⟨g, cap, _, h1, _⟩
  · exact ⟨_, _, _, h1⟩
  · exact ⟨_, _, _, h1⟩

theorem RAt.cells {base : Nat} {w : World} {lv : Value} {js : List Item} (h : RAt base w lv js) (hp : 0 < js.length) : ∃ g cap, lv = .slice (some ⟨g, 0, none⟩) js.length cap ∧ g < w.heap.size ∧ base ≤ g ∧
    ∀ j (h : j < js.length), w.cell? ⟨g, j * 3, none⟩ = some (.int .i64 (js[j]'h).code) ∧ w.cell? ⟨g, j * 3 + 1, none⟩ = some (.string (js[j]'h).part) ∧ w.cell? ⟨g, j * 3 + 2, none⟩ = some (.int .i64 (js[j]'h).pos) := by
  rcases h.2 with ⟨_, h2⟩ | ⟨g, cap, cur, hv, hb, hh, hn, hm, hsz, htk⟩
  · omega
  · refine ⟨g, cap, hv, (Array.getElem?_eq_some_iff.1 hh).1, hb, fun j hj => ?_⟩
    have key : ∀ k, k < 3 → w.cell? ⟨g, j * 3 + k, none⟩ = (linksCells js)[j * 3 + k]? := by
      intro k hk
      have e1 : w.cell? ⟨g, j * 3 + k, none⟩ = cur[j * 3 + k]? := by simp [World.cell?, hh]
      rw [e1, ← htk, List.getElem?_take, if_pos (by omega)]
      simp
    obtain ⟨a, b, c⟩ := linksCells_at js j hj
    refine ⟨?_, ?_, ?_⟩
    · have := key 0 (by omega); rw [Nat.add_zero] at this; rw [this]; exact a
    · rw [key 1 (by omega)]; exact b
    · rw [key 2 (by omega)]; exact c

/-- The reference's Code, whatever the chain; a chain without links has the nil slice. -/
theorem rcode_any (s : Bool) (lv : Value) (js : List Item) (base : Nat) (w : World) (h : RAt base w lv js) (hnil : js = [] → lv = .slice none 0 0) (hn : js.length ≤ 1048576) :
    Calls Tryd.prog 10 #[.agg #[.bool s, lv]] w (RCodePost s js w) := by
  cases s with
  | false => exact rcode_none lv js w h.slice
  | true =>
    cases js with
    | nil => rw [hnil rfl]; exact rcode_alien w
    | cons j js =>
      obtain ⟨g, cap, rfl, hg, _, hc⟩ := h.cells (by simp)
      exact rcode_some g js.length cap j js w hg (by simp at hn; omega) (by have := (hc 0 (by simp)).1; simpa only [Nat.zero_mul, List.getElem_cons_zero] using this)

/-- What the reference's New, Wrap and Turn come to where they make a chain. -/
def RMade (base : Nat) (c : Int) (part : ByteArray) (pos : Int) (js : List Item) (w : World) (e : Ending) (w' : World) : Prop :=
  ∃ g cap b, e = .returned (.agg #[.bool true, .slice (some ⟨g, 0, none⟩) (js.length + 1) cap]) ∧ Below w.heap.size w w' ∧ RAt base w' (.slice (some ⟨g, 0, none⟩) (js.length + 1) cap) (⟨b, c, part, pos⟩ :: js)

set_option maxRecDepth 100000 in
set_option maxHeartbeats 1000000 in
theorem rnew_zero (part : ByteArray) (pos : Int) (w : World) :
    Calls Tryd.prog 24 #[.int .i64 0, .string part, .int .i64 pos] w fun e w' => e = .returned (.agg #[.bool false, .slice none 0 0]) ∧ Below w.heap.size w w' := by
  go_enter Tryd.func24, Tryd.ntmps24
  go_wp2
  refine bodyPost_ret (v := .agg #[.bool false, .slice none 0 0]) (by simp [results, Tryd.results24, go_sem]) rfl ⟨rfl, ?_⟩
  exact (Below.refl _ _).alloc (Nat.le_refl _) _

/-- A new row of one link. -/
theorem one_row (base : Nat) (w : World) (hb : base ≤ w.heap.size) (b : Nat) (c : Int) (part : ByteArray) (pos : Int) :
    RAt base (w.alloc (.cells #[.int .i64 c, .string part, .int .i64 pos] 41)) (.slice (some ⟨w.heap.size, 0, none⟩) 1 1) [⟨b, c, part, pos⟩] := by
  refine ⟨rfl, .inr ⟨w.heap.size, 1, #[.int .i64 c, .string part, .int .i64 pos], rfl, hb, World.alloc_heap_new _ _, Nat.le_refl 1, by decide, rfl, rfl⟩⟩

set_option maxRecDepth 100000 in
set_option maxHeartbeats 1000000 in
theorem rnew_some (base : Nat) (c : Int) (part : ByteArray) (pos : Int) (w : World) (hb : base ≤ w.heap.size) (hc : (c == 0) = false) :
    Calls Tryd.prog 24 #[.int .i64 c, .string part, .int .i64 pos] w (RMade base c part pos [] w) := by
  go_enter Tryd.func24, Tryd.ntmps24
  go_wp2
  have hb1 : Below w.heap.size w (w.alloc (.cells #[.bool true, .slice (some ⟨w.heap.size + 1, 0, none⟩) 1 1] 27)) := (Below.refl _ _).alloc (Nat.le_refl _) _
  have hr := one_row base (w.alloc (.cells #[.bool true, .slice (some ⟨w.heap.size + 1, 0, none⟩) 1 1] 27)) (by simp; omega) 0 c part pos
  rw [World.size_alloc] at hr
  refine bodyPost_ret (v := .agg #[.bool true, .slice (some ⟨w.heap.size + 1, 0, none⟩) 1 1]) (by simp [results, Tryd.results24, go_sem]) rfl ⟨w.heap.size + 1, 1, 0, rfl, hb1.alloc (by simp) _, hr⟩

set_option maxRecDepth 100000 in
set_option maxHeartbeats 1000000 in
theorem rturn_none (lv : Value) (hlv : ∃ a n c, lv = .slice a n c) (c : Int) (part : ByteArray) (pos : Int) (w : World) :
    Calls Tryd.prog 26 #[.agg #[.bool false, lv], .int .i64 c, .string part, .int .i64 pos] w fun e w' => e = .returned (.agg #[.bool false, lv]) ∧ Below w.heap.size w w' := by
  obtain ⟨a, n, cp, rfl⟩ := hlv
  go_enter Tryd.func26, Tryd.ntmps26
  go_wp2
  refine bodyPost_ret (v := .agg #[.bool false, .slice a n cp]) (by simp [results, Tryd.results26, go_sem]) rfl ⟨rfl, ?_⟩
  exact ((Below.refl _ _).alloc (Nat.le_refl _) _).alloc (by simp) _

theorem RAt.setOther {base : Nat} {w : World} {lv : Value} {js : List Item} (h : RAt base w lv js) {b : Nat} {cs : Array Value} {T : TypeId} {fr : Nat × Nat} (hb : w.heap[b]? = some (.cells cs T fr)) (hT : T ≠ 41) (o : Nat) (x : Value) : RAt base (w.setCell ⟨b, o, none⟩ x) lv js := by
  refine ⟨h.1, ?_⟩
  rcases h.2 with h2 | ⟨g, cap, cur, hv, hg, hh, r⟩
  · exact .inl h2
  · refine .inr ⟨g, cap, cur, hv, hg, ?_, r⟩
    rw [Below.heap_setCell _ _ _ _ (by
      intro e
      have e' : g = b := e
      subst e'
      rw [hh] at hb
      cases hb
      exact hT rfl)]
    exact hh

theorem linksCells_one (js : List Item) : ∀ u ∈ linksCells js, u.oneCell' = true := by
  intro u hu
  obtain ⟨i, _, hi⟩ := List.mem_flatMap.1 hu
  simp [linkCells] at hi
  rcases hi with rfl | rfl | rfl <;> rfl

set_option maxRecDepth 100000 in
set_option maxHeartbeats 2000000 in
theorem rturn_some (base : Nat) (lv : Value) (js : List Item) (c : Int) (part : ByteArray) (pos : Int) (w : World) (h : RAt base w lv js) (hnil : js = [] → lv = .slice none 0 0) (hn : js.length ≤ 1048576) (hb : base ≤ w.heap.size) (hc : (c == 0) = false) :
    Calls Tryd.prog 26 #[.agg #[.bool true, lv], .int .i64 c, .string part, .int .i64 pos] w (RMade base c part pos js w) := by
  obtain ⟨i0, hi, hz0, hz1, hz2⟩ := info_parts Tryd.infoRLink
  by_cases hj : js = []
  · subst hj
    rw [hnil rfl]
    clear hnil h
    go_enter Tryd.func26, Tryd.ntmps26
    go_wp2
    have hb1 : Below w.heap.size w ((w.alloc (.cells #[.bool true, .slice none 0 0] 27)).alloc (.cells #[.bool true, .slice (some ⟨w.heap.size + 1 + 1, 0, none⟩) 1 1] 27)) := ((Below.refl _ _).alloc (Nat.le_refl _) _).alloc (by simp) _
    have hr := one_row base ((w.alloc (.cells #[.bool true, .slice none 0 0] 27)).alloc (.cells #[.bool true, .slice (some ⟨w.heap.size + 1 + 1, 0, none⟩) 1 1] 27)) (by simp; omega) 0 c part pos
    rw [World.size_alloc, World.size_alloc] at hr
    refine bodyPost_ret (v := .agg #[.bool true, .slice (some ⟨w.heap.size + 1 + 1, 0, none⟩) 1 1]) (by simp [results, Tryd.results26, go_sem]) rfl ⟨w.heap.size + 1 + 1, 1, 0, rfl, hb1.alloc (by simp; omega) _, hr⟩
  · obtain ⟨g, cap, rfl, hg, hbg, hcells⟩ := h.cells (by cases js with | nil => exact absurd rfl hj | cons a l => simp)
    have hjl : 0 < js.length := by cases js with | nil => exact absurd rfl hj | cons a l => simp
    have HN := Lib.hid hnil
    have HJ := Lib.hid hj
    have HC := Lib.hid hcells
    have HR := Lib.hid h
    clear hnil hj hcells h
    go_enter Tryd.func26, Tryd.ntmps26
    go_wp2_with (at_builtin; refine wpList_append_own _ rfl _ _ 25 rfl base 41 i0 (.agg #[.int .i64 0, .string ⟨#[]⟩, .int .i64 0]) 3 32 Tryd.underlying25 hi hz0 hz1 hz2 rfl (by decide) _ 1 (linksCells [⟨0, c, part, pos⟩]) rfl ?hown ⟨g, 0, none⟩ js.length cap (linksCells js) rfl ?c0 ?c1 ?c2 ?c3 ?c4 ?c5 ?_)
    case hown =>
      have hr := one_row base ((w.alloc (.cells #[.bool true, .slice (some ⟨g, 0, none⟩) js.length cap] 27)).alloc (.cells #[.bool false, .slice none 0 0] 27)) (by simp; omega) 0 c part pos
      rw [World.size_alloc, World.size_alloc] at hr
      exact hr
    case c0 => exact HR.out.1
    case c1 =>
      intro j u hu
      have hj : j < js.length * 3 := by rw [← HR.out.1]; exact (List.getElem?_eq_some_iff.1 hu).1
      have hB : Below w.heap.size w (((w.alloc (.cells #[.bool true, .slice (some ⟨g, 0, none⟩) js.length cap] 27)).alloc (.cells #[.bool false, .slice none 0 0] 27)).alloc (.cells #[.int .i64 c, .string part, .int .i64 pos] 41)) := (((Below.refl _ _).alloc (Nat.le_refl _) _).alloc (by simp) _).alloc (by simp; omega) _
      have e : (Addr.mk g 0 Option.none).add j = ⟨g, j, Option.none⟩ := by rw [Go.WideShapes.add_plain, Nat.zero_add]
      rw [e, hB.cell (p := ⟨g, j, Option.none⟩) hg, HR.out.cellAt j hj]
      exact hu
    case c2 => exact linksCells_one js
    case c3 => unfold maxLen; omega
    case c4 => omega
    case c5 => simp; omega
    intro v' w4 hown' hgrow _
    have hB : Below w.heap.size w (((w.alloc (.cells #[.bool true, .slice (some ⟨g, 0, none⟩) js.length cap] 27)).alloc (.cells #[.bool false, .slice none 0 0] 27)).alloc (.cells #[.int .i64 c, .string part, .int .i64 pos] 41)) := (((Below.refl _ _).alloc (Nat.le_refl _) _).alloc (by simp) _).alloc (by simp; omega) _
    have hB4 : Below (w.heap.size + 1 + 1) (((w.alloc (.cells #[.bool true, .slice (some ⟨g, 0, none⟩) js.length cap] 27)).alloc (.cells #[.bool false, .slice none 0 0] 27)).alloc (.cells #[.int .i64 c, .string part, .int .i64 pos] 41)) w4 := below_grown hgrow (by simp) (fun k e => by cases e; exact Nat.le_refl _)
    have hh : w4.heap[w.heap.size + 1]? = some (.cells #[.bool false, .slice Option.none 0 0] 27 (0, 0)) := by
      rw [hB4.block _ (Nat.lt_succ_self _), Below.heap_alloc _ _ _ (by simp)]
      have := World.alloc_heap_new (w.alloc (.cells #[.bool true, .slice (some ⟨g, 0, none⟩) js.length cap] 27)) (.cells #[.bool false, .slice Option.none 0 0] 27)
      rwa [World.size_alloc] at this
    have d0 : w4.cell? ⟨w.heap.size + 1, 0, none⟩ = some (.bool false) := by simp [World.cell?, hh]
    have d1 : w4.cell? ⟨w.heap.size + 1, 1, none⟩ = some (.slice none 0 0) := by simp [World.cell?, hh]
    have f0 : w4.frozen? ⟨w.heap.size + 1, 0, none⟩ = false := by simp [World.frozen?, hh]
    have f1 : w4.frozen? ⟨w.heap.size + 1, 1, none⟩ = false := by simp [World.frozen?, hh]
    have HH := Lib.hid hh
    clear hh
    have hsl : ∃ g' cap', v' = .slice (some ⟨g', 0, none⟩) (js.length + 1) cap' := by
      rcases hown'.2 with ⟨_, h2⟩ | ⟨g', cap', _, h1, _⟩
      · omega
      · exact ⟨g', cap', by rw [h1, Nat.add_comm]⟩
    obtain ⟨g', cap', rfl⟩ := hsl
    have hrow : RAt base w4 (.slice (some ⟨g', 0, none⟩) (js.length + 1) cap') (⟨0, c, part, pos⟩ :: js) := by
      have e1 : linksCells (⟨0, c, part, pos⟩ :: js) = linksCells [⟨0, c, part, pos⟩] ++ linksCells js := by simp [linksCells, linkCells]
      unfold RAt
      rw [e1, List.length_cons, Nat.add_comm js.length 1, Nat.add_comm 1 js.length]
      rw [Nat.add_comm 1 js.length] at hown'
      exact hown'
    have HROW := Lib.hid hrow
    have HB := Lib.hid (hB.trans (hB4.mono (by omega)))
    clear hown' hgrow hB hB4 hrow
    go_wp2
    have hne : (Addr.mk (w.heap.size + 1) 1 Option.none) ≠ ⟨w.heap.size + 1, 0, Option.none⟩ := by intro e; cases e
    have r0 : ((w4.setCell ⟨w.heap.size + 1, 0, none⟩ (.bool true)).setCell ⟨w.heap.size + 1, 1, none⟩ (.slice (some ⟨g', 0, none⟩) (js.length + 1) cap')).cell? ⟨w.heap.size + 1, 0, none⟩ = some (.bool true) := by
      rw [World.cell?_setCell_other _ _ _ _ hne]; exact World.cell?_setCell_same _ _ _ d0
    have d1' : (w4.setCell ⟨w.heap.size + 1, 0, none⟩ (.bool true)).cell? ⟨w.heap.size + 1, 1, none⟩ = some (.slice none 0 0) := by
      rw [World.cell?_setCell_other _ _ _ _ hne.symm]; exact d1
    have r1 : ((w4.setCell ⟨w.heap.size + 1, 0, none⟩ (.bool true)).setCell ⟨w.heap.size + 1, 1, none⟩ (.slice (some ⟨g', 0, none⟩) (js.length + 1) cap')).cell? ⟨w.heap.size + 1, 1, none⟩ = some (.slice (some ⟨g', 0, none⟩) (js.length + 1) cap') :=
      World.cell?_setCell_same _ _ _ d1'
    have hk : ((w4.setCell ⟨w.heap.size + 1, 0, none⟩ (.bool true))).heap[w.heap.size + 1]? = some (.cells #[.bool true, .slice Option.none 0 0] 27 (0, 0)) := heap_setCell_same w4 _ 0 _ _ _ HH.out
    refine bodyPost_ret (v := .agg #[.bool true, .slice (some ⟨g', 0, none⟩) (js.length + 1) cap']) (by simp [results, Tryd.results26, go_sem, r0, r1]) rfl ⟨g', cap', 0, rfl, ?_, ?_⟩
    · exact (HB.out.setCell (p := ⟨w.heap.size + 1, 0, none⟩) (Nat.le_succ _) _).setCell (p := ⟨w.heap.size + 1, 1, none⟩) (Nat.le_succ _) _
    · exact (HROW.out.setOther HH.out (by decide) 0 _).setOther hk (by decide) 1 _

/-- Behind the reference's Code in its Turn. -/
def TurnMid (w : World) (lv : Value) (js : List Item) (e : Ending) (w' : World) : Prop :=
  e = .returned (.int .i64 (rcodeOf true js)) ∧ w'.heap[w.heap.size]? = some (.cells #[.bool true, lv] 27 (0, 0)) ∧ w'.heap[w.heap.size + 1]? = some (.cells #[.bool false, .slice none 0 0] 27 (0, 0)) ∧ Below w.heap.size w w' ∧ w.heap.size + 1 < w'.heap.size

set_option maxRecDepth 100000 in
set_option maxHeartbeats 2000000 in
theorem rturn_zero (base : Nat) (lv : Value) (js : List Item) (part : ByteArray) (pos : Int) (w : World) (h : RAt base w lv js) (hnil : js = [] → lv = .slice none 0 0) (hn : js.length ≤ 1048576) (hb : base ≤ w.heap.size) (hc : (rcodeOf true js == 0) = false) :
    Calls Tryd.prog 26 #[.agg #[.bool true, lv], .int .i64 0, .string part, .int .i64 pos] w (RMade base (rcodeOf true js) part pos js w) := by
  obtain ⟨i0, hi, hz0, hz1, hz2⟩ := info_parts Tryd.infoRLink
  by_cases hj : js = []
  · have hlv := hnil hj
    subst hlv
    have HB2 : Below w.heap.size w ((w.alloc (.cells #[.bool true, .slice none 0 0] 27)).alloc (.cells #[.bool false, .slice none 0 0] 27)) := ((Below.refl _ _).alloc (Nat.le_refl _) _).alloc (by simp) _
    have HX : Hid (Calls Tryd.prog 10 #[.agg #[.bool true, .slice none 0 0]] ((w.alloc (.cells #[.bool true, .slice none 0 0] 27)).alloc (.cells #[.bool false, .slice none 0 0] 27)) (TurnMid w (.slice none 0 0) js)) := by
      refine (rcode_any true (.slice none 0 0) js base _ (h.kept HB2) hnil hn).mono fun e w' hh => ⟨hh.1, ?_, ?_, HB2.trans (hh.2.mono HB2.size), ?_⟩
      · rw [hh.2.block _ (by simp; omega), Below.heap_alloc _ _ _ (by simp)]; exact World.alloc_heap_new _ _
      · rw [hh.2.block _ (by simp)]
        have := World.alloc_heap_new (w.alloc (.cells #[.bool true, .slice none 0 0] 27)) (.cells #[.bool false, .slice Option.none 0 0] 27)
        rwa [World.size_alloc] at this
      · have := hh.2.size; simp at this; omega
    clear HB2
    have HJ := Lib.hid hj
    clear hnil h hj
    go_enter Tryd.func26, Tryd.ntmps26
    go_wp2_with fail
    refine HX.out.mono ?_
    rintro e w3 ⟨rfl, hbx, hrx, hb3, hz3⟩
    have HC0 := Lib.hid hc
    obtain ⟨code, hcode⟩ : ∃ code, rcodeOf true js = code := ⟨_, rfl⟩
    rw [hcode]
    have hc' : (code == 0) = false := by rw [← hcode]; exact hc
    have HCD := Lib.hid hcode
    have b0 : w3.cell? ⟨w.heap.size, 0, none⟩ = some (.bool true) := by simp [World.cell?, hbx]
    have b1 : w3.cell? ⟨w.heap.size, 1, none⟩ = some (.slice none 0 0) := by simp [World.cell?, hbx]
    have d0 : w3.cell? ⟨w.heap.size + 1, 0, none⟩ = some (.bool false) := by simp [World.cell?, hrx]
    have d1 : w3.cell? ⟨w.heap.size + 1, 1, none⟩ = some (.slice none 0 0) := by simp [World.cell?, hrx]
    have f0 : w3.frozen? ⟨w.heap.size + 1, 0, none⟩ = false := by simp [World.frozen?, hrx]
    have f1 : w3.frozen? ⟨w.heap.size + 1, 1, none⟩ = false := by simp [World.frozen?, hrx]
    have b1o : ∀ o, (w3.alloc o).cell? ⟨w.heap.size, 1, none⟩ = some (.slice none 0 0) := fun o => by rw [World.cell?_alloc_lt _ _ ⟨w.heap.size, 1, none⟩ (by show w.heap.size < _; omega)]; exact b1
    have d0o : ∀ o, (w3.alloc o).cell? ⟨w.heap.size + 1, 0, none⟩ = some (.bool false) := fun o => by rw [World.cell?_alloc_lt _ _ ⟨w.heap.size + 1, 0, none⟩ hz3]; exact d0
    have d1o : ∀ o, (w3.alloc o).cell? ⟨w.heap.size + 1, 1, none⟩ = some (.slice none 0 0) := fun o => by rw [World.cell?_alloc_lt _ _ ⟨w.heap.size + 1, 1, none⟩ hz3]; exact d1
    have f0o : ∀ o, (w3.alloc o).frozen? ⟨w.heap.size + 1, 0, none⟩ = false := fun o => by rw [World.frozen?_alloc_old _ _ ⟨w.heap.size + 1, 0, none⟩ (by show w.heap.size + 1 ≠ _; omega)]; exact f0
    have f1o : ∀ o, (w3.alloc o).frozen? ⟨w.heap.size + 1, 1, none⟩ = false := fun o => by rw [World.frozen?_alloc_old _ _ ⟨w.heap.size + 1, 1, none⟩ (by show w.heap.size + 1 ≠ _; omega)]; exact f1
    have HRX := Lib.hid hrx
    have HB3 := Lib.hid hb3
    clear hbx hrx hb3 hc hcode
    go_wp2
    have hne : (Addr.mk (w.heap.size + 1) 1 Option.none) ≠ ⟨w.heap.size + 1, 0, Option.none⟩ := by intro e; cases e
    have d1' : (w3.setCell ⟨w.heap.size + 1, 0, none⟩ (.bool true)).cell? ⟨w.heap.size + 1, 1, none⟩ = some (.slice none 0 0) := by
      rw [World.cell?_setCell_other _ _ _ _ hne.symm]; exact d1
    have zX : ((w3.setCell ⟨w.heap.size + 1, 0, none⟩ (.bool true)).setCell ⟨w.heap.size + 1, 1, none⟩ (.slice (some ⟨w3.heap.size, 0, none⟩) 1 1)).heap.size = w3.heap.size := by simp
    have r0 : (((w3.setCell ⟨w.heap.size + 1, 0, none⟩ (.bool true)).setCell ⟨w.heap.size + 1, 1, none⟩ (.slice (some ⟨w3.heap.size, 0, none⟩) 1 1)).alloc (.cells #[.int .i64 code, .string part, .int .i64 pos] 41)).cell? ⟨w.heap.size + 1, 0, none⟩ = some (.bool true) := by
      rw [World.cell?_alloc_lt _ _ ⟨w.heap.size + 1, 0, none⟩ (by rw [zX]; exact hz3), World.cell?_setCell_other _ _ _ _ hne]; exact World.cell?_setCell_same _ _ _ d0
    have r1 : (((w3.setCell ⟨w.heap.size + 1, 0, none⟩ (.bool true)).setCell ⟨w.heap.size + 1, 1, none⟩ (.slice (some ⟨w3.heap.size, 0, none⟩) 1 1)).alloc (.cells #[.int .i64 code, .string part, .int .i64 pos] 41)).cell? ⟨w.heap.size + 1, 1, none⟩ = some (.slice (some ⟨w3.heap.size, 0, none⟩) 1 1) := by
      rw [World.cell?_alloc_lt _ _ ⟨w.heap.size + 1, 1, none⟩ (by rw [zX]; exact hz3)]; exact World.cell?_setCell_same _ _ _ d1'
    have hrow := one_row base ((w3.setCell ⟨w.heap.size + 1, 0, none⟩ (.bool true)).setCell ⟨w.heap.size + 1, 1, none⟩ (.slice (some ⟨w3.heap.size, 0, none⟩) 1 1)) (by rw [zX]; omega) 0 code part pos
    rw [zX] at hrow
    have hjn := HJ.out
    subst hjn
    refine bodyPost_ret (v := .agg #[.bool true, .slice (some ⟨w3.heap.size, 0, none⟩) 1 1]) (by simp [results, Tryd.results26, go_sem, r0, r1]) rfl ⟨w3.heap.size, 1, 0, rfl, ?_, ?_⟩
    · exact ((HB3.out.setCell (p := ⟨w.heap.size + 1, 0, none⟩) (Nat.le_succ _) _).setCell (p := ⟨w.heap.size + 1, 1, none⟩) (Nat.le_succ _) _).alloc (by rw [zX]; omega) _
    · rw [HCD.out]; exact hrow
  · obtain ⟨g, cap, rfl, hg, hbg, hcells⟩ := h.cells (by cases js with | nil => exact absurd rfl hj | cons a l => simp)
    have hjl : 0 < js.length := by cases js with | nil => exact absurd rfl hj | cons a l => simp
    have HB2 : Below w.heap.size w ((w.alloc (.cells #[.bool true, .slice (some ⟨g, 0, none⟩) js.length cap] 27)).alloc (.cells #[.bool false, .slice none 0 0] 27)) := ((Below.refl _ _).alloc (Nat.le_refl _) _).alloc (by simp) _
    have HX : Hid (Calls Tryd.prog 10 #[.agg #[.bool true, .slice (some ⟨g, 0, none⟩) js.length cap]] ((w.alloc (.cells #[.bool true, .slice (some ⟨g, 0, none⟩) js.length cap] 27)).alloc (.cells #[.bool false, .slice none 0 0] 27)) (TurnMid w (.slice (some ⟨g, 0, none⟩) js.length cap) js)) := by
      refine (rcode_any true (.slice (some ⟨g, 0, none⟩) js.length cap) js base _ (h.kept HB2) hnil hn).mono fun e w' hh => ⟨hh.1, ?_, ?_, HB2.trans (hh.2.mono HB2.size), ?_⟩
      · rw [hh.2.block _ (by simp; omega), Below.heap_alloc _ _ _ (by simp)]; exact World.alloc_heap_new _ _
      · rw [hh.2.block _ (by simp)]
        have := World.alloc_heap_new (w.alloc (.cells #[.bool true, .slice (some ⟨g, 0, none⟩) js.length cap] 27)) (.cells #[.bool false, .slice Option.none 0 0] 27)
        rwa [World.size_alloc] at this
      · have := hh.2.size; simp at this; omega
    clear HB2
    have HJ := Lib.hid hj
    have HR := Lib.hid h
    clear hnil hj hcells h
    go_enter Tryd.func26, Tryd.ntmps26
    go_wp2_with fail
    refine HX.out.mono ?_
    rintro e w3 ⟨rfl, hbx, hrx, hb3, hz3⟩
    have HC0 := Lib.hid hc
    obtain ⟨code, hcode⟩ : ∃ code, rcodeOf true js = code := ⟨_, rfl⟩
    rw [hcode]
    have hc' : (code == 0) = false := by rw [← hcode]; exact hc
    have HCD := Lib.hid hcode
    have b0 : w3.cell? ⟨w.heap.size, 0, none⟩ = some (.bool true) := by simp [World.cell?, hbx]
    have b1 : w3.cell? ⟨w.heap.size, 1, none⟩ = some (.slice (some ⟨g, 0, none⟩) js.length cap) := by simp [World.cell?, hbx]
    have d0 : w3.cell? ⟨w.heap.size + 1, 0, none⟩ = some (.bool false) := by simp [World.cell?, hrx]
    have d1 : w3.cell? ⟨w.heap.size + 1, 1, none⟩ = some (.slice none 0 0) := by simp [World.cell?, hrx]
    have f0 : w3.frozen? ⟨w.heap.size + 1, 0, none⟩ = false := by simp [World.frozen?, hrx]
    have f1 : w3.frozen? ⟨w.heap.size + 1, 1, none⟩ = false := by simp [World.frozen?, hrx]
    have b1o : ∀ o, (w3.alloc o).cell? ⟨w.heap.size, 1, none⟩ = some (.slice (some ⟨g, 0, none⟩) js.length cap) := fun o => by rw [World.cell?_alloc_lt _ _ ⟨w.heap.size, 1, none⟩ (by show w.heap.size < _; omega)]; exact b1
    have d0o : ∀ o, (w3.alloc o).cell? ⟨w.heap.size + 1, 0, none⟩ = some (.bool false) := fun o => by rw [World.cell?_alloc_lt _ _ ⟨w.heap.size + 1, 0, none⟩ hz3]; exact d0
    have d1o : ∀ o, (w3.alloc o).cell? ⟨w.heap.size + 1, 1, none⟩ = some (.slice none 0 0) := fun o => by rw [World.cell?_alloc_lt _ _ ⟨w.heap.size + 1, 1, none⟩ hz3]; exact d1
    have f0o : ∀ o, (w3.alloc o).frozen? ⟨w.heap.size + 1, 0, none⟩ = false := fun o => by rw [World.frozen?_alloc_old _ _ ⟨w.heap.size + 1, 0, none⟩ (by show w.heap.size + 1 ≠ _; omega)]; exact f0
    have f1o : ∀ o, (w3.alloc o).frozen? ⟨w.heap.size + 1, 1, none⟩ = false := fun o => by rw [World.frozen?_alloc_old _ _ ⟨w.heap.size + 1, 1, none⟩ (by show w.heap.size + 1 ≠ _; omega)]; exact f1
    have HRX := Lib.hid hrx
    have HB3 := Lib.hid hb3
    clear hbx hrx hb3 hc hcode
    go_wp2_with (at_builtin; refine wpList_append_own _ rfl _ _ 25 rfl base 41 i0 (.agg #[.int .i64 0, .string ⟨#[]⟩, .int .i64 0]) 3 32 Tryd.underlying25 hi hz0 hz1 hz2 rfl (by decide) _ 1 (linksCells [⟨0, code, part, pos⟩]) rfl ?hown ⟨g, 0, none⟩ js.length cap (linksCells js) rfl ?c0 ?c1 ?c2 ?c3 ?c4 ?c5 ?_)
    case hown =>
      have hr := one_row base w3 (by omega) 0 code part pos
      exact hr
    case c0 => exact HR.out.1
    case c1 =>
      intro j u hu
      have hj : j < js.length * 3 := by rw [← HR.out.1]; exact (List.getElem?_eq_some_iff.1 hu).1
      have hB : Below w.heap.size w (w3.alloc (.cells #[.int .i64 code, .string part, .int .i64 pos] 41)) := HB3.out.alloc (by omega) _
      have e : (Addr.mk g 0 Option.none).add j = ⟨g, j, Option.none⟩ := by rw [Go.WideShapes.add_plain, Nat.zero_add]
      rw [e, hB.cell (p := ⟨g, j, Option.none⟩) hg, HR.out.cellAt j hj]
      exact hu
    case c2 => exact linksCells_one js
    case c3 => unfold maxLen; omega
    case c4 => omega
    case c5 => simp; omega
    intro v' w4 hown' hgrow _
    have hB : Below w.heap.size w (w3.alloc (.cells #[.int .i64 code, .string part, .int .i64 pos] 41)) := HB3.out.alloc (by omega) _
    have hB4 : Below (w.heap.size + 1 + 1) (w3.alloc (.cells #[.int .i64 code, .string part, .int .i64 pos] 41)) w4 := below_grown hgrow (by simp; omega) (fun k e => by cases e; exact hz3)
    have hh : w4.heap[w.heap.size + 1]? = some (.cells #[.bool false, .slice Option.none 0 0] 27 (0, 0)) := by
      rw [hB4.block _ (Nat.lt_succ_self _), Below.heap_alloc _ _ _ hz3]; exact HRX.out
    have e0 : w4.cell? ⟨w.heap.size + 1, 0, none⟩ = some (.bool false) := by simp [World.cell?, hh]
    have e1 : w4.cell? ⟨w.heap.size + 1, 1, none⟩ = some (.slice none 0 0) := by simp [World.cell?, hh]
    have g0 : w4.frozen? ⟨w.heap.size + 1, 0, none⟩ = false := by simp [World.frozen?, hh]
    have g1 : w4.frozen? ⟨w.heap.size + 1, 1, none⟩ = false := by simp [World.frozen?, hh]
    have HH := Lib.hid hh
    clear hh
    have hsl : ∃ g' cap', v' = .slice (some ⟨g', 0, none⟩) (js.length + 1) cap' := by
      rcases hown'.2 with ⟨_, h2⟩ | ⟨g', cap', _, h1, _⟩
      · omega
      · exact ⟨g', cap', by rw [h1, Nat.add_comm]⟩
    obtain ⟨g', cap', rfl⟩ := hsl
    have hrow : RAt base w4 (.slice (some ⟨g', 0, none⟩) (js.length + 1) cap') (⟨0, code, part, pos⟩ :: js) := by
      have e1 : linksCells (⟨0, code, part, pos⟩ :: js) = linksCells [⟨0, code, part, pos⟩] ++ linksCells js := by simp [linksCells, linkCells]
      unfold RAt
      rw [e1, List.length_cons, Nat.add_comm js.length 1, Nat.add_comm 1 js.length]
      rw [Nat.add_comm 1 js.length] at hown'
      exact hown'
    have HROW := Lib.hid hrow
    have HB := Lib.hid (hB.trans (hB4.mono (by omega)))
    clear hown' hgrow hB hB4 hrow
    go_wp2
    have hne : (Addr.mk (w.heap.size + 1) 1 Option.none) ≠ ⟨w.heap.size + 1, 0, Option.none⟩ := by intro e; cases e
    have r0 : ((w4.setCell ⟨w.heap.size + 1, 0, none⟩ (.bool true)).setCell ⟨w.heap.size + 1, 1, none⟩ (.slice (some ⟨g', 0, none⟩) (js.length + 1) cap')).cell? ⟨w.heap.size + 1, 0, none⟩ = some (.bool true) := by
      rw [World.cell?_setCell_other _ _ _ _ hne]; exact World.cell?_setCell_same _ _ _ e0
    have d1' : (w4.setCell ⟨w.heap.size + 1, 0, none⟩ (.bool true)).cell? ⟨w.heap.size + 1, 1, none⟩ = some (.slice none 0 0) := by
      rw [World.cell?_setCell_other _ _ _ _ hne.symm]; exact e1
    have r1 : ((w4.setCell ⟨w.heap.size + 1, 0, none⟩ (.bool true)).setCell ⟨w.heap.size + 1, 1, none⟩ (.slice (some ⟨g', 0, none⟩) (js.length + 1) cap')).cell? ⟨w.heap.size + 1, 1, none⟩ = some (.slice (some ⟨g', 0, none⟩) (js.length + 1) cap') :=
      World.cell?_setCell_same _ _ _ d1'
    have hk : ((w4.setCell ⟨w.heap.size + 1, 0, none⟩ (.bool true))).heap[w.heap.size + 1]? = some (.cells #[.bool true, .slice Option.none 0 0] 27 (0, 0)) := heap_setCell_same w4 _ 0 _ _ _ HH.out
    refine bodyPost_ret (v := .agg #[.bool true, .slice (some ⟨g', 0, none⟩) (js.length + 1) cap']) (by simp [results, Tryd.results26, go_sem, r0, r1]) rfl ⟨g', cap', 0, rfl, ?_, ?_⟩
    rotate_left
    · rw [HCD.out]; exact (HROW.out.setOther HH.out (by decide) 0 _).setOther hk (by decide) 1 _
    · exact (HB.out.setCell (p := ⟨w.heap.size + 1, 0, none⟩) (Nat.le_succ _) _).setCell (p := ⟨w.heap.size + 1, 1, none⟩) (Nat.le_succ _) _
end Go.Proofs.YtciebpijdgdcjaaDoor
