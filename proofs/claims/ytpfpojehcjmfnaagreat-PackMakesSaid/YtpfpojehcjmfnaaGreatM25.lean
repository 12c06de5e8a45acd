/-
  A unit's pieces laid tick by tick, as the document does: what lies in memory meanwhile.
  Conditions: none.
-/
import Derived.Test.YtpfpojehcjmfnaaGreatM18
import Derived.Test.YtpfpojehcjmfnaaGreatM16
import Derived.Test.YtpfpojehcjmfnaaGreatM19
import Derived.Laws.OwnMore

/-
  Rooms of the document: a row of sixteen numbers of the call's own.
  Conditions: the slice reads as places; the plan is right.
-/
set_option linter.unusedVariables false
set_option linter.unusedSimpArgs false
namespace Go.Proofs.YtpfpojehcjmfnaaGreat
open Go.RowKit

/-- Block g begins with sixteen numbers. -/
def RowC (W : World) (g : Nat) (r : Nat → Int) : Prop := ∃ cur, W.heap[g]? = some (.cells cur 3 (0, 0)) ∧ ∀ i, i < 16 → cur[i]? = some (.int .i64 (r i))
theorem RowC.cell {W : World} {g : Nat} {r : Nat → Int} (h : RowC W g r) {i : Nat} (hi : i < 16) : W.cell? ⟨g, i, none⟩ = some (.int .i64 (r i)) := by
  obtain ⟨cur, h1, h2⟩ := h
  rw [cell_of_row W g i _ _ _ h1, h2 i hi]
theorem RowC.frozen {W : World} {g : Nat} {r : Nat → Int} (h : RowC W g r) (j : Nat) : W.frozen? ⟨g, j, none⟩ = false := by
  obtain ⟨cur, h1, _⟩ := h
  simp [World.frozen?, h1]
theorem RowC.lt {W : World} {g : Nat} {r : Nat → Int} (h : RowC W g r) : g < W.heap.size := by
  obtain ⟨cur, h1, _⟩ := h
  exact heap_lt h1
theorem RowC.same {W W' : World} {g : Nat} {r : Nat → Int} (h : RowC W g r) (e : W'.heap[g]? = W.heap[g]?) : RowC W' g r := by
  obtain ⟨cur, h1, h2⟩ := h
  exact ⟨cur, e.trans h1, h2⟩
theorem RowC.set {W : World} {g : Nat} {r : Nat → Int} (h : RowC W g r) (j : Nat) (x : Int) : RowC (W.setCell ⟨g, j, none⟩ (.int .i64 x)) g fun i => if i = j then x else r i := by
  obtain ⟨cur, h1, h2⟩ := h
  refine ⟨_, heap_setCell_mem W g j _ _ _ _ h1, fun i hi => ?_⟩
  have h3 := h2 i hi
  have hlt : i < cur.size := (Array.getElem?_eq_some_iff.1 h3).1
  show _ = some (Value.int .i64 (if i = j then x else r i))
  by_cases e : i = j
  · subst e
    rw [if_pos rfl, Array.getElem?_setIfInBounds]
    simp [hlt]
  · rw [if_neg e, Array.getElem?_setIfInBounds_ne (fun h => e h.symm)]
    exact h3
theorem RowC.congr {W : World} {g : Nat} {r r' : Nat → Int} (h : RowC W g r) (e : ∀ i, i < 16 → r i = r' i) : RowC W g r' := by
  obtain ⟨cur, h1, h2⟩ := h
  exact ⟨cur, h1, fun i hi => by rw [h2 i hi, e i hi]⟩
/-- The rooms of the first k cores. -/
def rmL (f : Int) (m : Nat) (l : List Pl) (k : Nat) : List Int := (List.range k).map fun i : Nat => roomN f m l (i : Int)
theorem rmL_succ (f : Int) (m : Nat) (l : List Pl) (k : Nat) : rmL f m l (k + 1) = rmL f m l k ++ [roomN f m l (k : Int)] := by unfold rmL; rw [List.range_succ, List.map_append]; rfl
theorem rmL_get {f : Int} {m : Nat} {l : List Pl} {k i : Nat} (h : i < k) : (rmL f m l k)[i]? = some (roomN f m l (i : Int)) := by
  unfold rmL
  rw [List.getElem?_map, List.getElem?_range h]
  rfl
theorem rowC_of_own {W : World} {base : Nat} {v : Value} {f : Int} {m : Nat} {l : List Pl} (h : W.ownsRow base 3 1 v 16 ((rmL f m l 16).map (Value.int .i64))) : ∃ g cap, v = .slice (some ⟨g, 0, none⟩) 16 cap ∧ base ≤ g ∧ RowC W g fun i => roomN f m l (i : Int) := by
  obtain ⟨h1, h2⟩ := h
  rcases h2 with ⟨_, h0⟩ | ⟨g, cap, cur, rfl, hg, hh, hn, hc, hs, ht⟩
  · exact absurd h0 (by decide)
  · refine ⟨g, cap, rfl, hg, cur, hh, fun i hi => ?_⟩
    have e : (cur.toList.take (16 * 1))[i]? = some (.int .i64 (roomN f m l (i : Int))) := by
      rw [ht, List.getElem?_map, rmL_get hi]
      rfl
    rw [List.getElem?_take_of_lt (by omega)] at e
    simpa using e

set_option maxRecDepth 100000 in
set_option maxHeartbeats 4000000 in
theorem refRoomsC_any (f : Int) (m : Nat) (v : Value) (l : List Pl) (w : World) (h : PlsAt w v l) (hL : LightL l) (hr : Right f m l) :
    Calls Tryz.prog 89 #[planA f m v] w (fun e w' => ∃ v', e = .returned v' ∧ w'.ownsRow w.heap.size 3 1 v' 16 ((rmL f m l 16).map (Value.int .i64)) ∧ Below w.heap.size w w') := by
  obtain ⟨i0, hi, hz0, hz1, hz2⟩ := info_parts Tryz.infoInt
  have HRM := Lib.hid (fun c w h => refRoom_any f m v l c w h hL (shares_of hr.place hr.f64) (by have := hr.m16; omega) (by have := hr.f2; omega) hr.f64)
  have HH := Lib.hid h
  unfold planA at HRM
  obtain ⟨w1, P, hw1, hP, hPl, hb1, hbox⟩ := box_any w #[.int .i64 f, .int .u32 m, v] 26
  have HB1 := Lib.hid hb1
  have HBOX := Lib.hid hbox
  obtain ⟨r0, r1, r2⟩ := three_heads hbox
  clear h hL hr hb1 hbox
  unfold planA
  go_enter Tryz.func89, Tryz.ntmps89
  go_wp2_with fail
  clear hw1 hP r0 r1 r2
  have HB0 := Lib.hid (show Below w1.heap.size w1 (w1.alloc (Obj.cells #[] 3)) from (Below.refl _ _).alloc (Nat.le_refl _) _)
  have HO0 : Hid ((w1.alloc (Obj.cells #[] 3)).ownsRow w1.heap.size 3 1 (.slice (some ⟨w1.heap.size, 0, none⟩) 0 0) 0 []) :=
    ⟨rfl, .inr ⟨w1.heap.size, 0, #[], rfl, Nat.le_refl _, heap_alloc_new w1 _, Nat.le_refl _, Nat.zero_le _, rfl, rfl⟩⟩
  go_loopg [3, 4] 16 (fun g s i wr => ∃ k : Nat, k ≤ 16 ∧ g = 16 - k ∧ i = .int .i64 k ∧ Below w1.heap.size w1 wr ∧ wr.ownsRow w1.heap.size 3 1 s k ((rmL f m l k).map (Value.int .i64)))
  case atStart => exact ⟨0, Nat.zero_le _, rfl, rfl, HB0.out, HO0.out⟩
  case round =>
    obtain ⟨k, hk, hg, rfl, hbw, hown⟩ := hrel
    have HG := Lib.hid hg
    have HBW := Lib.hid hbw
    have HO := Lib.hid hown
    have hPl2 : P < wr.heap.size := Nat.lt_of_lt_of_le hPl hbw.size
    have HBX := Lib.hid ((hbw.block P hPl).trans HBOX.out)
    obtain ⟨r0, r1, r2⟩ := three_heads HBX.out
    have HB := Lib.hid (HB1.out.trans (hbw.mono HB1.out.size))
    clear hg hbw hown
    by_cases hlt : k < 16
    · obtain ⟨x, hx⟩ : ∃ x, roomN f m l (k : Int) = x := ⟨_, rfl⟩
      have HX := Lib.hid hx
      have HRC := Lib.hid (HRM.out (k : Int) wr (HH.out.keep HB.out))
      rw [hx] at HRC
      clear hx
      go_wp2_with fail
      refine HRC.out.mono ?_
      rintro e w3 ⟨rfl, hb⟩
      have HB2 := Lib.hid (HBW.out.trans (hb.mono HBW.out.size))
      have HO2 := Lib.hid (own_below5 HO.out hb)
      have hsz := HB2.out.size
      clear hb
      go_wp2_with (at_builtin; refine wpList_append_own _ rfl _ _ 43 rfl w1.heap.size 3 i0 (.int .i64 0) 1 8 Tryz.underlying43 hi hz0 hz1 hz2 rfl (by decide) _ _ _ rfl (HO2.out.alloc _) ⟨w3.heap.size, 0, none⟩ 1 1 [.int .i64 x] rfl rfl ?c1 ?c2 ?c3 ?c4 ?c5 ?_)
      case c1 =>
        intro j u hj
        rcases j with _ | j
        · simpa [Addr.add] using hj
        · simp at hj
      case c2 => intro u hu; simp at hu; subst hu; rfl
      case c3 => unfold maxLen; omega
      case c4 => omega
      case c5 => simp; omega
      intro v2 w2 hown2 hgrow _
      have HB3 := Lib.hid ((HB2.out.alloc hsz _).trans (below_grown4 hgrow (by simp; omega) (own_base4 HO2.out)))
      have HO3 := Lib.hid hown2
      clear hown2 hgrow hsz
      go_wp2
      go_roundg (16 - (k + 1))
      case measure => have := HG.out; omega
      case rel =>
        refine ⟨k + 1, by omega, rfl, by go_num, HB3.out, ?_⟩
        have e := HO3.out
        rw [rmL_succ, List.map_append, HX.out]
        exact e
    · have hk16 : k = 16 := by omega
      subst hk16
      have HBE := Lib.hid (HB1.out.trans (HBW.out.mono HB1.out.size))
      have HOE := Lib.hid (own_mono5 HO.out (show w.heap.size ≤ w1.heap.size from HB1.out.size))
      go_wp2
      go_ret
      exact ⟨_, rfl, HOE.out, HBE.out⟩
end Go.Proofs.YtpfpojehcjmfnaaGreat

/-
  A unit's pieces laid tick by tick, as the document does: what lies in memory meanwhile.
  Conditions: none.
-/
set_option linter.unusedVariables false
set_option linter.unusedSimpArgs false
namespace Go.Proofs.YtpfpojehcjmfnaaGreat
open Go.RowKit

/-- Some ticks laid: the place in block X, its pieces in a row of the call's own, what is left of the rooms in block G. -/
structure RxSt (G X B : Nat) (u s : Int) (wS wx : World) (c : Int) (v : Value) (ps : List Pc) (r : Nat → Nat) : Prop where
  ap : Apart (fun b => b = G) wS wx
  row : RowC wx G fun i => (r i : Int)
  x : wx.heap[X]? = some (.cells #[.int .i64 u, .int .i64 s, .int .i64 c, v] 48 (0, 0))
  own : wx.ownsRow B 84 2 v ps.length (pcsCells ps)
  sz : B ≤ wx.heap.size
  lt : G < X ∧ X < B ∧ G < wS.heap.size ∧ wS.heap.size ≤ X
theorem RxSt.keep {G X B : Nat} {u s c : Int} {wS wx w' : World} {v : Value} {ps : List Pc} {r : Nat → Nat} (h : RxSt G X B u s wS wx c v ps r) (hb : Below wx.heap.size wx w') : RxSt G X B u s wS w' c v ps r :=
  ⟨h.ap.trans (Apart.of_below (F := fun _ => False) hb) fun x _ e => e.elim, h.row.same (hb.block G h.row.lt), keep_block h.x hb, own_below5 h.own hb, Nat.le_trans h.sz hb.size, h.lt⟩
theorem RxSt.drewN {G X B : Nat} {u s c : Int} {wS wx : World} {v : Value} {ps : List Pc} {r : Nat → Nat} (h : RxSt G X B u s wS wx c v ps r) (n : Nat) : RxSt G X B u s wS (wx.drewN n) c v ps r := h.keep (below_drewN (Below.refl _ _) n)
/-- A room is stored. -/
theorem RxSt.room {G X B : Nat} {u s c : Int} {wS wx : World} {v : Value} {ps : List Pc} {r r' : Nat → Nat} (h : RxSt G X B u s wS wx c v ps r) (j : Nat) (x : Int) (hr : ∀ i, i < 16 → (if i = j then x else (r i : Int)) = (r' i : Int)) : RxSt G X B u s wS (wx.setCell ⟨G, j, none⟩ (.int .i64 x)) c v ps r' := by
  obtain ⟨l1, l2, l3, l4⟩ := h.lt
  refine ⟨h.ap.set (p := ⟨G, j, none⟩) (.inl rfl) _, (h.row.set j x).congr hr, (heap_other wx _ (by omega)).trans h.x, own_keep h.own fun k hk => heap_other wx _ (by have := own_base5 h.own k hk; omega), by have := h.sz; simp [World.setCell]; omega, h.lt⟩
/-- The place's core is stored. -/
theorem RxSt.core {G X B : Nat} {u s c : Int} {wS wx : World} {v : Value} {ps : List Pc} {r : Nat → Nat} (h : RxSt G X B u s wS wx c v ps r) (x : Int) : RxSt G X B u s wS (wx.setCell ⟨X, 2, none⟩ (.int .i64 x)) x v ps r := by
  obtain ⟨l1, l2, l3, l4⟩ := h.lt
  refine ⟨h.ap.set (p := ⟨X, 2, none⟩) (.inr l4) _, h.row.same (heap_other wx _ (by omega)), heap_setCell_mem _ _ _ _ _ _ _ h.x, own_keep h.own fun k hk => heap_other wx _ (by have := own_base5 h.own k hk; omega), by have := h.sz; simp [World.setCell]; omega, h.lt⟩
/-- A piece more. -/
theorem RxSt.more {G X B : Nat} {u s c : Int} {wS wx wA : World} {v v2 : Value} {q : List Pc} {r : Nat → Nat} {y : Pc} (h : RxSt G X B u s wS wx c v q r) (ha : Apart (fun b => v.ownBlock = some b) wx wA)
    (hown : wA.ownsRow B 84 2 v2 (q.length + 1) (pcsCells q ++ [.int .i64 y.c, .int .u64 y.t])) : RxSt G X B u s wS (wA.setCell ⟨X, 3, none⟩ v2) c v2 (q ++ [y]) r := by
  obtain ⟨l1, l2, l3, l4⟩ := h.lt
  have hne : ∀ b, b ≤ X → ¬ v.ownBlock = some b := fun b hb e => by have := own_base5 h.own b e; omega
  have hx := (ha.block X (heap_lt h.x) (hne X (Nat.le_refl _))).trans h.x
  refine ⟨?_, (h.row.same (ha.block G h.row.lt (hne G (by omega)))).same (heap_other wA _ (by omega)), heap_setCell_mem _ _ _ _ _ _ _ hx, ?_, by have := h.sz; have := ha.size; simp [World.setCell]; omega, h.lt⟩
  · refine Apart.set (p := ⟨X, 3, none⟩) (h.ap.trans ha fun b hb e => ?_) (.inr l4) _
    have := own_base5 h.own b e
    omega
  · rw [List.length_append, List.length_singleton, pcsCells_snoc]
    exact own_keep hown fun k hk => heap_other wA _ (by have := own_base5 hown k hk; omega)
/-- The last piece's ticks are stored. -/
theorem RxSt.tick {G X B g d : Nat} {u s c : Int} {wS wx : World} {q : List Pc} {r : Nat → Nat} {e : Int} {t t' : Nat} (h : RxSt G X B u s wS wx c (.slice (some ⟨g, 0, none⟩) (q.length + 1) d) (q ++ [⟨e, t⟩]) r) :
    RxSt G X B u s wS (wx.setCell ⟨g, q.length * 2 + 1, none⟩ (.int .u64 t')) c (.slice (some ⟨g, 0, none⟩) (q.length + 1) d) (q ++ [⟨e, t'⟩]) r := by
  obtain ⟨l1, l2, l3, l4⟩ := h.lt
  have hg := own_base5 h.own g rfl
  have ho := h.own
  rw [List.length_append, List.length_singleton] at ho
  have h1 := (World.ownsRow.stored ho (q.length * 2 + 1) (.int .u64 t')).1
  refine ⟨h.ap.set (p := ⟨g, q.length * 2 + 1, none⟩) (.inr (by show wS.heap.size ≤ g; omega)) _, h.row.same (heap_other wx _ (by omega)), (heap_other wx _ (by omega)).trans h.x, ?_, by have := h.sz; simp [World.setCell]; omega, h.lt⟩
  rw [List.length_append, List.length_singleton]
  have e1 : (pcsCells (q ++ [⟨e, t⟩])).set (q.length * 2 + 1) (.int .u64 t') = pcsCells (q ++ [⟨e, t'⟩]) := by
    rw [pcsCells_snoc, pcsCells_snoc, List.set_append_right _ _ (by rw [pcsCells_length]; omega), pcsCells_length, Nat.add_sub_cancel_left]
    rfl
  rw [e1] at h1
  exact h1
/-- What the last piece says. -/
theorem RxSt.last {G X B : Nat} {u s c : Int} {wS wx : World} {v : Value} {q : List Pc} {r : Nat → Nat} {y : Pc} (h : RxSt G X B u s wS wx c v (q ++ [y]) r) :
    ∃ g d, v = .slice (some ⟨g, 0, none⟩) (q.length + 1) d ∧ wx.cell? ⟨g, q.length * 2, none⟩ = some (.int .i64 y.c) ∧ wx.cell? ⟨g, q.length * 2 + 1, none⟩ = some (.int .u64 y.t) ∧ wx.frozen? ⟨g, q.length * 2 + 1, none⟩ = false ∧ B ≤ g := by
  have ho := h.own
  rw [List.length_append, List.length_singleton] at ho
  have hb := own_base5 ho
  rcases id ho.2 with ⟨_, h0⟩ | ⟨g, d, cur, rfl, hg, hh, _⟩
  · exact absurd h0 (by omega)
  · have hc := World.ownsRow.cells ho (g := g) rfl
    have e1 : (pcsCells (q ++ [y]))[q.length * 2]? = some (.int .i64 y.c) := by
      rw [pcsCells_snoc, List.getElem?_append_right (by rw [pcsCells_length]; exact Nat.le_refl _), pcsCells_length, Nat.sub_self]
      rfl
    have e2 : (pcsCells (q ++ [y]))[q.length * 2 + 1]? = some (.int .u64 y.t) := by
      rw [pcsCells_snoc, List.getElem?_append_right (by rw [pcsCells_length]; omega), pcsCells_length, Nat.add_sub_cancel_left]
      rfl
    have h1 := hc _ _ e1
    have h2 := hc _ _ e2
    rw [Addr.add_lit, Nat.zero_add] at h1 h2
    exact ⟨g, d, rfl, h1, h2, World.ownsRow.frozenAt ho _, hb g rfl⟩
end Go.Proofs.YtpfpojehcjmfnaaGreat
