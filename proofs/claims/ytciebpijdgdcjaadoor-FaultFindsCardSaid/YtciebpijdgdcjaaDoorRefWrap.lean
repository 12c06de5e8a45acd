/-
  The reference's Wrap over its own chains.
  Conditions: at most 1048576 links.
-/
import Derived.Test.YtciebpijdgdcjaaDoorRef
namespace Go.Proofs.YtciebpijdgdcjaaDoor
open Go.RowKit Go.Extern.Stop Go.Stop Go.Extern

/-- A block is the reference's chain in a box. -/
def BoxAt (w : World) (n : Nat) : Prop := ∃ u v, w.heap[n]? = some (.cells #[u, v] 27 (0, 0))

theorem keep_wrap {n : Nat} {x0 x1 : Value} {w w1 w2 : World} (h : w1.cell? ⟨n, 0, none⟩ = some x0 ∧ w1.cell? ⟨n, 1, none⟩ = some x1 ∧ Hid (Below w.heap.size w w1 ∧ n + 1 < w1.heap.size ∧ BoxAt w1 (n + 1))) (hb : Below w1.heap.size w1 w2) :
    w2.cell? ⟨n, 0, none⟩ = some x0 ∧ w2.cell? ⟨n, 1, none⟩ = some x1 ∧ Hid (Below w.heap.size w w2 ∧ n + 1 < w2.heap.size ∧ BoxAt w2 (n + 1)) := by
  obtain ⟨h0, h1, hB, hn, hr⟩ := h
  refine ⟨?_, ?_, hB.trans (hb.mono hB.size), Nat.lt_of_lt_of_le hn hb.size, let ⟨u, v, hu⟩ := hr; ⟨u, v, (hb.block _ hn).trans hu⟩⟩
  · rw [hb.cell (p := ⟨n, 0, none⟩) (by show n < _; omega)]; exact h0
  · rw [hb.cell (p := ⟨n, 1, none⟩) (by show n < _; omega)]; exact h1

theorem wrap_below {n : Nat} {x0 x1 : Value} {w w1 : World} (h : w1.cell? ⟨n, 0, none⟩ = some x0 ∧ w1.cell? ⟨n, 1, none⟩ = some x1 ∧ Hid (Below w.heap.size w w1 ∧ n + 1 < w1.heap.size ∧ BoxAt w1 (n + 1))) : Below w.heap.size w w1 := h.2.2.1

theorem wrap_cells {n : Nat} {x0 x1 : Value} {w w1 w2 : World} (h : w1.cell? ⟨n, 0, none⟩ = some x0 ∧ w1.cell? ⟨n, 1, none⟩ = some x1 ∧ Hid (Below w.heap.size w w1 ∧ n + 1 < w1.heap.size ∧ BoxAt w1 (n + 1))) (hb : Below w1.heap.size w1 w2) :
    ∃ u v, w2.cell? ⟨n + 1, 0, none⟩ = some u ∧ w2.cell? ⟨n + 1, 1, none⟩ = some v ∧ w2.frozen? ⟨n + 1, 0, none⟩ = false ∧ w2.frozen? ⟨n + 1, 1, none⟩ = false ∧ Hid (w2.heap[n + 1]? = some (.cells #[u, v] 27 (0, 0)) ∧ Below w.heap.size w w2) := by
  obtain ⟨u, v, hh0⟩ := h.2.2.2.2
  have hh := (hb.block _ h.2.2.2.1).trans hh0
  exact ⟨u, v, by simp [World.cell?, hh], by simp [World.cell?, hh], by simp [World.frozen?, hh], by simp [World.frozen?, hh], hh, h.2.2.1.trans (hb.mono h.2.2.1.size)⟩

theorem keep_store {n : Nat} {x0 x1 y0 y1 : Value} {w w1 : World} (hn : w.heap.size ≤ n) (h : w1.cell? ⟨n, 0, none⟩ = some x0 ∧ w1.cell? ⟨n, 1, none⟩ = some x1 ∧ Hid (Below w.heap.size w w1 ∧ n + 1 < w1.heap.size ∧ BoxAt w1 (n + 1))) : ((w1.setCell ⟨n + 1, 0, none⟩ y0).setCell ⟨n + 1, 1, none⟩ y1).cell? ⟨n, 0, none⟩ = some x0 ∧ ((w1.setCell ⟨n + 1, 0, none⟩ y0).setCell ⟨n + 1, 1, none⟩ y1).cell? ⟨n, 1, none⟩ = some x1 ∧ Hid (Below w.heap.size w ((w1.setCell ⟨n + 1, 0, none⟩ y0).setCell ⟨n + 1, 1, none⟩ y1) ∧ n + 1 < ((w1.setCell ⟨n + 1, 0, none⟩ y0).setCell ⟨n + 1, 1, none⟩ y1).heap.size ∧ BoxAt ((w1.setCell ⟨n + 1, 0, none⟩ y0).setCell ⟨n + 1, 1, none⟩ y1) (n + 1)) := by
  obtain ⟨h0, h1, hB, hz, hr⟩ := h
  obtain ⟨u, v, hh⟩ := hr
  have hn0 : ∀ o, (Addr.mk (n + 1) o Option.none) ≠ ⟨n, 0, Option.none⟩ := by intro o e; cases e
  have hn1 : ∀ o, (Addr.mk (n + 1) o Option.none) ≠ ⟨n, 1, Option.none⟩ := by intro o e; cases e
  have k1 := heap_setCell_same w1 (n + 1) 0 _ _ y0 hh
  have k2 := heap_setCell_same (w1.setCell ⟨n + 1, 0, none⟩ y0) (n + 1) 1 _ _ y1 k1
  refine ⟨?_, ?_, (hB.setCell (p := ⟨n + 1, 0, none⟩) (by show _ ≤ n + 1; omega) _).setCell (p := ⟨n + 1, 1, none⟩) (by show _ ≤ n + 1; omega) _, by simpa using hz, ?_⟩
  · rw [World.cell?_setCell_other _ _ _ _ (hn0 1), World.cell?_setCell_other _ _ _ _ (hn0 0)]; exact h0
  · rw [World.cell?_setCell_other _ _ _ _ (hn1 1), World.cell?_setCell_other _ _ _ _ (hn1 0)]; exact h1
  · exact ⟨_, _, k2⟩

set_option maxRecDepth 100000 in
set_option maxHeartbeats 2000000 in
theorem rwrap_some (base : Nat) (lv : Value) (js : List Item) (part : ByteArray) (pos : Int) (w : World) (h : RAt base w lv js) (hnil : js = [] → lv = .slice none 0 0) (hn : js.length ≤ 1048576) (hb : base ≤ w.heap.size) (hc : (rcodeOf true js == 0) = false) :
    Calls Tryd.prog 25 #[.agg #[.bool true, lv], .string part, .int .i64 pos] w (RMade base (rcodeOf true js) part pos js w) := by
  obtain ⟨a, n, cp, rfl⟩ := h.slice
  have HC := Lib.hid (fun w' (hb : Below w.heap.size w w') => rcode_any true _ js base w' (h.kept hb) hnil hn)
  have HT := Lib.hid (fun w' (hbw : Below w.heap.size w w') => rturn_some base _ js (rcodeOf true js) part pos w' (h.kept hbw) hnil hn (Nat.le_trans hb hbw.size) hc)
  have hw : Below w.heap.size w ((w.alloc (.cells #[.bool true, .slice a n cp] 27)).alloc (.cells #[.bool false, .slice Option.none 0 0] 27)).drew := (((Below.refl _ _).alloc (Nat.le_refl _) _).alloc (by simp) _).drew
  have hr : ((w.alloc (.cells #[.bool true, .slice a n cp] 27)).alloc (.cells #[.bool false, .slice Option.none 0 0] 27)).drew.heap[w.heap.size + 1]? = some (.cells #[.bool false, .slice Option.none 0 0] 27 (0, 0)) := by
    have := World.alloc_heap_new (w.alloc (.cells #[.bool true, .slice a n cp] 27)) (.cells #[.bool false, .slice Option.none 0 0] 27)
    rwa [World.size_alloc] at this
  have HS := Lib.hid (show ((w.alloc (.cells #[.bool true, .slice a n cp] 27)).alloc (.cells #[.bool false, .slice Option.none 0 0] 27)).drew.cell? ⟨w.heap.size, 0, none⟩ = some (.bool true) ∧ ((w.alloc (.cells #[.bool true, .slice a n cp] 27)).alloc (.cells #[.bool false, .slice Option.none 0 0] 27)).drew.cell? ⟨w.heap.size, 1, none⟩ = some (.slice a n cp) ∧ Hid (Below w.heap.size w ((w.alloc (.cells #[.bool true, .slice a n cp] 27)).alloc (.cells #[.bool false, .slice Option.none 0 0] 27)).drew ∧ w.heap.size + 1 < ((w.alloc (.cells #[.bool true, .slice a n cp] 27)).alloc (.cells #[.bool false, .slice Option.none 0 0] 27)).drew.heap.size ∧ BoxAt ((w.alloc (.cells #[.bool true, .slice a n cp] 27)).alloc (.cells #[.bool false, .slice Option.none 0 0] 27)).drew (w.heap.size + 1)) from ⟨by simp, by simp, hw, by simp, ⟨_, _, hr⟩⟩)
  clear h hnil hc hw hr
  go_enter Tryd.func25, Tryd.ntmps25
  go_wp2
  go_region_held3 (fun w' => w'.cell? ⟨w.heap.size, 0, none⟩ = some (.bool true) ∧ w'.cell? ⟨w.heap.size, 1, none⟩ = some (.slice a n cp) ∧ Hid (Below w.heap.size w w' ∧ w.heap.size + 1 < w'.heap.size ∧ BoxAt w' (w.heap.size + 1)))
    (first | exact HS.out | exact keep_wrap (by assumption) (by assumption) | exact keep_store (Nat.le_refl _) (by assumption))
    (first
      | (go_at_call 10; refine (HC.out _ ?hb1).mono ?_; (case hb1 => exact wrap_below (by assumption)); rintro e w' ⟨rfl, hb1⟩)
      | (go_at_call 26; refine (HT.out _ ?hb2).mono ?_; (case hb2 => exact wrap_below (by assumption)); rintro e w' ⟨g2, cap2, b2, rfl, hb2, hr2⟩; obtain ⟨u0, u1, k0, k1, z0, z1, HK⟩ := wrap_cells (by assumption) hb2))
  go_wp2
  obtain ⟨hh, hB⟩ := HK.out
  have hne : (Addr.mk (w.heap.size + 1) 1 Option.none) ≠ ⟨w.heap.size + 1, 0, Option.none⟩ := by intro e; cases e
  have hk := heap_setCell_same w' (w.heap.size + 1) 0 _ _ (.bool true) hh
  have r0 : ((w'.setCell ⟨w.heap.size + 1, 0, none⟩ (.bool true)).setCell ⟨w.heap.size + 1, 1, none⟩ (.slice (some ⟨g2, 0, none⟩) (js.length + 1) cap2)).cell? ⟨w.heap.size + 1, 0, none⟩ = some (.bool true) := by
    rw [World.cell?_setCell_other _ _ _ _ hne]; exact World.cell?_setCell_same _ _ _ k0
  have r1 : ((w'.setCell ⟨w.heap.size + 1, 0, none⟩ (.bool true)).setCell ⟨w.heap.size + 1, 1, none⟩ (.slice (some ⟨g2, 0, none⟩) (js.length + 1) cap2)).cell? ⟨w.heap.size + 1, 1, none⟩ = some (.slice (some ⟨g2, 0, none⟩) (js.length + 1) cap2) :=
    World.cell?_setCell_same _ _ _ (by rw [World.cell?_setCell_other _ _ _ _ hne.symm]; exact k1)
  refine bodyPost_ret (v := .agg #[.bool true, .slice (some ⟨g2, 0, none⟩) (js.length + 1) cap2]) (by simp [results, Tryd.results25, go_sem, r0, r1]) rfl ⟨g2, cap2, b2, rfl, ?_, ?_⟩
  · exact (hB.setCell (p := ⟨w.heap.size + 1, 0, none⟩) (Nat.le_succ _) _).setCell (p := ⟨w.heap.size + 1, 1, none⟩) (Nat.le_succ _) _
  · exact (hr2.setOther hh (by decide) 0 _).setOther hk (by decide) 1 _

set_option maxRecDepth 100000 in
set_option maxHeartbeats 2000000 in
theorem rwrap_none (base : Nat) (lv : Value) (js : List Item) (part : ByteArray) (pos : Int) (w : World) (h : RAt base w lv js) :
    Calls Tryd.prog 25 #[.agg #[.bool false, lv], .string part, .int .i64 pos] w fun e w' => e = .returned (.agg #[.bool false, lv]) ∧ Below w.heap.size w w' := by
  obtain ⟨a, n, cp, rfl⟩ := h.slice
  have HC := Lib.hid (fun w' (_ : Below w.heap.size w w') => rcode_none (.slice a n cp) js w' ⟨a, n, cp, rfl⟩)
  have HT := Lib.hid (fun w' (_ : Below w.heap.size w w') => rturn_none (.slice a n cp) ⟨a, n, cp, rfl⟩ 0 part pos w')
  have hw : Below w.heap.size w ((w.alloc (.cells #[.bool false, .slice a n cp] 27)).alloc (.cells #[.bool false, .slice Option.none 0 0] 27)).drew := (((Below.refl _ _).alloc (Nat.le_refl _) _).alloc (by simp) _).drew
  have hr : ((w.alloc (.cells #[.bool false, .slice a n cp] 27)).alloc (.cells #[.bool false, .slice Option.none 0 0] 27)).drew.heap[w.heap.size + 1]? = some (.cells #[.bool false, .slice Option.none 0 0] 27 (0, 0)) := by
    have := World.alloc_heap_new (w.alloc (.cells #[.bool false, .slice a n cp] 27)) (.cells #[.bool false, .slice Option.none 0 0] 27)
    rwa [World.size_alloc] at this
  have HS := Lib.hid (show ((w.alloc (.cells #[.bool false, .slice a n cp] 27)).alloc (.cells #[.bool false, .slice Option.none 0 0] 27)).drew.cell? ⟨w.heap.size, 0, none⟩ = some (.bool false) ∧ ((w.alloc (.cells #[.bool false, .slice a n cp] 27)).alloc (.cells #[.bool false, .slice Option.none 0 0] 27)).drew.cell? ⟨w.heap.size, 1, none⟩ = some (.slice a n cp) ∧ Hid (Below w.heap.size w ((w.alloc (.cells #[.bool false, .slice a n cp] 27)).alloc (.cells #[.bool false, .slice Option.none 0 0] 27)).drew ∧ w.heap.size + 1 < ((w.alloc (.cells #[.bool false, .slice a n cp] 27)).alloc (.cells #[.bool false, .slice Option.none 0 0] 27)).drew.heap.size ∧ BoxAt ((w.alloc (.cells #[.bool false, .slice a n cp] 27)).alloc (.cells #[.bool false, .slice Option.none 0 0] 27)).drew (w.heap.size + 1)) from ⟨by simp, by simp, hw, by simp, ⟨_, _, hr⟩⟩)
  clear h hw hr
  go_enter Tryd.func25, Tryd.ntmps25
  go_wp2
  go_region_held3 (fun w' => w'.cell? ⟨w.heap.size, 0, none⟩ = some (.bool false) ∧ w'.cell? ⟨w.heap.size, 1, none⟩ = some (.slice a n cp) ∧ Hid (Below w.heap.size w w' ∧ w.heap.size + 1 < w'.heap.size ∧ BoxAt w' (w.heap.size + 1)))
    (first | exact HS.out | exact keep_wrap (by assumption) (by assumption) | exact keep_store (Nat.le_refl _) (by assumption))
    (first
      | (go_at_call 10; refine (HC.out _ ?hb1).mono ?_; (case hb1 => exact wrap_below (by assumption)); rintro e w' ⟨rfl, hb1⟩)
      | (go_at_call 26; refine (HT.out _ ?hb2).mono ?_; (case hb2 => exact wrap_below (by assumption)); rintro e w' ⟨rfl, hb2⟩; obtain ⟨u0, u1, k0, k1, z0, z1, HK⟩ := wrap_cells (by assumption) hb2))
  go_wp2
  obtain ⟨_, hB⟩ := HK.out
  have hne : (Addr.mk (w.heap.size + 1) 1 Option.none) ≠ ⟨w.heap.size + 1, 0, Option.none⟩ := by intro e; cases e
  have r0 : ((w'.setCell ⟨w.heap.size + 1, 0, none⟩ (.bool false)).setCell ⟨w.heap.size + 1, 1, none⟩ (.slice a n cp)).cell? ⟨w.heap.size + 1, 0, none⟩ = some (.bool false) := by
    rw [World.cell?_setCell_other _ _ _ _ hne]; exact World.cell?_setCell_same _ _ _ k0
  have r1 : ((w'.setCell ⟨w.heap.size + 1, 0, none⟩ (.bool false)).setCell ⟨w.heap.size + 1, 1, none⟩ (.slice a n cp)).cell? ⟨w.heap.size + 1, 1, none⟩ = some (.slice a n cp) :=
    World.cell?_setCell_same _ _ _ (by rw [World.cell?_setCell_other _ _ _ _ hne.symm]; exact k1)
  refine bodyPost_ret (v := .agg #[.bool false, .slice a n cp]) (by simp [results, Tryd.results25, go_sem, r0, r1]) rfl ⟨rfl, ?_⟩
  · exact (hB.setCell (p := ⟨w.heap.size + 1, 0, none⟩) (Nat.le_succ _) _).setCell (p := ⟨w.heap.size + 1, 1, none⟩) (Nat.le_succ _) _
end Go.Proofs.YtciebpijdgdcjaaDoor
