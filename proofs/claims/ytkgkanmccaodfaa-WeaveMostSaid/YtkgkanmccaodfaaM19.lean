/-
  Check of the document.
  Conditions: the slice reads as wants.
-/
import Derived.Test.YtkgkanmccaodfaaM16
import Derived.Test.YtkgkanmccaodfaaM18
import Derived.Test.YtkgkanmccaodfaaM04
import Derived.Test.YtkgkanmccaodfaaM14
import Derived.Test.YtkgkanmccaodfaaM05
import Derived.Test.YtkgkanmccaodfaaM13
import Derived.Test.YtkgkanmccaodfaaM17

/-
  What is left of the rooms, in memory; Rooms of the program.
  Conditions: the slice reads as places; the numbers are of their kinds.
-/
set_option linter.unusedVariables false
set_option linter.unusedSimpArgs false
namespace Go.Proofs.Ytkgkanmccaodfaa
open Go.RowKit

/-- Block R is sixteen numbers. -/
abbrev RowI (W : World) (R : Nat) (g : Nat → Int) : Prop := W.heap[R]? = some (.cells (arrI g) 3 (0, 0))
theorem RowI.cell {W : World} {N : Nat} {g : Nat → Int} (h : RowI W N g) {i : Nat} (hi : i < 16) : W.cell? ⟨N, i, none⟩ = some (.int .i64 (g i)) := by rw [cell_of_row W N i _ _ _ h, arrI_get _ hi]
theorem RowI.frozen {W : World} {N : Nat} {g : Nat → Int} (h : RowI W N g) (j : Nat) : W.frozen? ⟨N, j, none⟩ = false := by
  have e : W.heap[N]? = some (.cells (arrI g) 3 (0, 0)) := h
  simp [World.frozen?, e]
theorem RowI.set {W : World} {N : Nat} {g : Nat → Int} (h : RowI W N g) (j : Nat) (x : Int) : RowI (W.setCell ⟨N, j, none⟩ (.int .i64 x)) N fun i => if i = j then x else g i := by
  have := heap_setCell_mem W N j _ _ _ (.int .i64 x) h
  rwa [arrI_set] at this
theorem RowI.congr {W : World} {N : Nat} {g g' : Nat → Int} (h : RowI W N g) (e : ∀ i, i < 16 → g i = g' i) : RowI W N g' := by
  show _ = some (Obj.cells (arrI g') _ _)
  rw [← arrI_congr e]
  exact h
theorem heap_other (W : World) {b k o : Nat} (u : Value) (h : k ≠ b) : (W.setCell ⟨b, o, none⟩ u).heap[k]? = W.heap[k]? := Below.heap_setCell _ _ _ _ h

/-- The rooms so far: those of the first k cores. -/
def rmA (f : Int) (m : Nat) (l : List Pl) (k i : Nat) : Int := if i < k then roomN f m l (i : Int) else 0
theorem rmA_zero (f : Int) (m : Nat) (l : List Pl) : rmA f m l 0 = fun _ => 0 := by
  funext i
  exact if_neg (Nat.not_lt_zero _)
theorem rmA_succ (f : Int) (m : Nat) (l : List Pl) (k : Nat) : (fun i => if i = k then roomN f m l (k : Int) else rmA f m l k i) = rmA f m l (k + 1) := by
  funext i
  unfold rmA
  by_cases h : i = k
  · subst h; rw [if_pos rfl, if_pos (by omega)]
  · rw [if_neg h]
    by_cases h2 : i < k
    · rw [if_pos h2, if_pos (by omega)]
    · rw [if_neg h2, if_neg (by omega)]
/-- What Rooms answers. -/
def RetRooms (f : Int) (m : Nat) (l : List Pl) (w : World) (e : Ending) (w' : World) : Prop := Below w.heap.size w w' ∧
  ((Right f m l ∧ ∃ R, e = .returned (.slice (some ⟨R, 0, none⟩) 16 16) ∧ w.heap.size ≤ R ∧ RowI w' R fun i => roomN f m l (i : Int)) ∨ (¬ Right f m l ∧ e = .returned (.slice none 0 0)))
end Go.Proofs.Ytkgkanmccaodfaa

/-
  Room of the document.
  Conditions: the slice reads as places; the numbers are small.
-/
set_option linter.unusedVariables false
namespace Go.Proofs.Ytkgkanmccaodfaa
open Go.RowKit Go.Sort

set_option maxRecDepth 100000 in
set_option maxHeartbeats 2000000 in
theorem refRoom_any (f : Int) (m : Nat) (v : Value) (l : List Pl) (c : Int) (w : World) (h : PlsAt w v l) (hL : LightL l) (hS : Shares l) (hm : m < 4294967296) (hf : 0 ≤ f) (hf2 : f ≤ 64) :
    Calls Try.prog 35 #[planA f m v, .int .i64 c] w (RetB (.int .i64 (roomN f m l c)) w) := by
  have HH := Lib.hid h
  have HC := Lib.hid (fun W => refHasC_any f m v c W hm)
  have HLO := Lib.hid (fun hc w h => refLoad_any f m v l c w h hL hS hc)
  have hlb := load_bound hL hS c
  unfold planA at HC HLO
  unfold roomN
  obtain ⟨w1, P, hw1, hP, hPl, hb1, hbox⟩ := box_any w #[.int .i64 f, .int .u32 m, v] 25
  have HB1 := Lib.hid hb1
  have HBOX := Lib.hid hbox
  obtain ⟨r0, r1, r2⟩ := three_heads hbox
  clear h hL hS hb1 hbox
  unfold planA
  cases hh : hasC m c with
  | false =>
    rw [hh] at HC
    rw [if_neg (by simp)]
    clear hh
    go_enter Try.func35, Try.ntmps35
    go_wp2_with fail
    refine (HC.out _).mono ?_
    rintro e w2 ⟨rfl, hb2⟩
    have HB2 := Lib.hid (HB1.out.trans (hb2.mono HB1.out.size))
    clear hb2
    go_wp2_with fail
    go_ret
    exact ⟨rfl, HB2.out⟩
  | true =>
    have hc := hasC_range hh
    rw [hh] at HC
    rw [if_pos rfl]
    obtain ⟨lb1, lb2⟩ := hlb
    have HLC := Lib.hid (HLO.out hc.1)
    generalize loadN l c = ld at *
    have hw64 : IntKind.i64.wrap (f - ld) = f - ld := IntWalk.i64_in _ (by omega)
    clear hh hc HLO
    go_enter Try.func35, Try.ntmps35
    go_wp2_with fail
    refine (HC.out _).mono ?_
    rintro e w2 ⟨rfl, hb2⟩
    have HB2 := Lib.hid (HB1.out.trans (hb2.mono HB1.out.size))
    have HBX2 := Lib.hid (keep_block HBOX.out hb2)
    obtain ⟨q0, q1, q2⟩ := three_heads HBX2.out
    clear hb2 r0 r1 r2 hw1
    go_wp2_with fail
    have hPl2 : P < w2.heap.size := heap_lt HBX2.out
    go_region_held3 (fun w' => w'.cell? ⟨P, 0, none⟩ = some (.int .i64 f) ∧ w'.cell? ⟨P, 1, none⟩ = some (.int .u32 m) ∧ w'.cell? ⟨P, 2, none⟩ = some v)
      (first | go_keep | exact ⟨(hb.cell (p := ⟨P, 0, none⟩) hPl2).trans q0, (hb.cell (p := ⟨P, 1, none⟩) hPl2).trans q1, (hb.cell (p := ⟨P, 2, none⟩) hPl2).trans q2⟩)
      (first | (go_at_call 25; refine (HLC.out _ (HH.out.keep HB2.out.drew)).mono ?_; rintro e w' ⟨rfl, hb⟩))
    all_goals
      have HB5 := Lib.hid (HB2.out.drew.trans (hb.mono HB2.out.size))
      clear hb
      go_wp2
      go_ret
      exact ⟨rfl, HB5.out⟩
end Go.Proofs.Ytkgkanmccaodfaa

/-
  Rooms of the document: a row of sixteen numbers of the call's own.
  Conditions: the slice reads as places; the plan is right.
-/
set_option linter.unusedVariables false
set_option linter.unusedSimpArgs false
namespace Go.Proofs.Ytkgkanmccaodfaa
open Go.RowKit

/-- Block g begins with sixteen numbers. -/
def RowC (W : World) (g : Nat) (r : Nat → Int) : Prop := ∃ cur, W.heap[g]? = some (.cells cur 3 (0, 0)) ∧ ∀ i, i < 16 → cur[i]? = some (.int .i64 (r i))
theorem RowC.cell {W : World} {g : Nat} {r : Nat → Int} (h : RowC W g r) {i : Nat} (hi : i < 16) : W.cell? ⟨g, i, none⟩ = some (.int .i64 (r i)) := by
  obtain ⟨cur, h1, h2⟩ := h
  rw [cell_of_row W g i _ _ _ h1, h2 i hi]
theorem RowC.frozen {W : World} {g : Nat} {r : Nat → Int} (h : RowC W g r) (j : Nat) : W.frozen? ⟨g, j, none⟩ = false := by
  obtain ⟨cur, h1, _⟩ := h
  simp [World.frozen?, h1]
theorem RowC.lt {W : World} {g : Nat} {r : Nat → Int} (h : RowC W g r) : g < W.heap.size := by
  obtain ⟨cur, h1, _⟩ := h
  exact heap_lt h1
theorem RowC.same {W W' : World} {g : Nat} {r : Nat → Int} (h : RowC W g r) (e : W'.heap[g]? = W.heap[g]?) : RowC W' g r := by
  obtain ⟨cur, h1, h2⟩ := h
  exact ⟨cur, e.trans h1, h2⟩
theorem RowC.set {W : World} {g : Nat} {r : Nat → Int} (h : RowC W g r) (j : Nat) (x : Int) : RowC (W.setCell ⟨g, j, none⟩ (.int .i64 x)) g fun i => if i = j then x else r i := by
  obtain ⟨cur, h1, h2⟩ := h
  refine ⟨_, heap_setCell_mem W g j _ _ _ _ h1, fun i hi => ?_⟩
  have h3 := h2 i hi
  have hlt : i < cur.size := (Array.getElem?_eq_some_iff.1 h3).1
  show _ = some (Value.int .i64 (if i = j then x else r i))
  by_cases e : i = j
  · subst e
    rw [if_pos rfl, Array.getElem?_setIfInBounds]
    simp [hlt]
  · rw [if_neg e, Array.getElem?_setIfInBounds_ne (fun h => e h.symm)]
    exact h3
theorem RowC.congr {W : World} {g : Nat} {r r' : Nat → Int} (h : RowC W g r) (e : ∀ i, i < 16 → r i = r' i) : RowC W g r' := by
  obtain ⟨cur, h1, h2⟩ := h
  exact ⟨cur, h1, fun i hi => by rw [h2 i hi, e i hi]⟩
/-- The rooms of the first k cores. -/
def rmL (f : Int) (m : Nat) (l : List Pl) (k : Nat) : List Int := (List.range k).map fun i : Nat => roomN f m l (i : Int)
theorem rmL_length (f : Int) (m : Nat) (l : List Pl) (k : Nat) : (rmL f m l k).length = k := by unfold rmL; rw [List.length_map, List.length_range]
theorem rmL_succ (f : Int) (m : Nat) (l : List Pl) (k : Nat) : rmL f m l (k + 1) = rmL f m l k ++ [roomN f m l (k : Int)] := by unfold rmL; rw [List.range_succ, List.map_append]; rfl
theorem rmL_get {f : Int} {m : Nat} {l : List Pl} {k i : Nat} (h : i < k) : (rmL f m l k)[i]? = some (roomN f m l (i : Int)) := by
  unfold rmL
  rw [List.getElem?_map, List.getElem?_range h]
  rfl
theorem rowC_of_own {W : World} {base : Nat} {v : Value} {f : Int} {m : Nat} {l : List Pl} (h : W.ownsRow base 3 1 v 16 ((rmL f m l 16).map (Value.int .i64))) : ∃ g cap, v = .slice (some ⟨g, 0, none⟩) 16 cap ∧ base ≤ g ∧ RowC W g fun i => roomN f m l (i : Int) := by
  obtain ⟨h1, h2⟩ := h
  rcases h2 with ⟨_, h0⟩ | ⟨g, cap, cur, rfl, hg, hh, hn, hc, hs, ht⟩
  · exact absurd h0 (by decide)
  · refine ⟨g, cap, rfl, hg, cur, hh, fun i hi => ?_⟩
    have e : (cur.toList.take (16 * 1))[i]? = some (.int .i64 (roomN f m l (i : Int))) := by
      rw [ht, List.getElem?_map, rmL_get hi]
      rfl
    rw [List.getElem?_take_of_lt (by omega)] at e
    simpa using e
end Go.Proofs.Ytkgkanmccaodfaa

/-
  A row of sixteen masks.
  Conditions: none.
-/
set_option linter.unusedVariables false
set_option linter.unusedSimpArgs false
namespace Go.Proofs.Ytkgkanmccaodfaa
open Go.RowKit

theorem Try.infoU64 : (Try.prog.info? 48).map (fun i => (i.zero, i.size, i.bytes)) = some (some (.int .u64 0), 1, 8) := by kernel_rfl
/-- Block g begins with sixteen masks. -/
def RowU (W : World) (g : Nat) (r : Nat → Nat) : Prop := ∃ cur, W.heap[g]? = some (.cells cur 48 (0, 0)) ∧ ∀ i, i < 16 → cur[i]? = some (.int .u64 (r i))
theorem RowU.cell {W : World} {g : Nat} {r : Nat → Nat} (h : RowU W g r) {i : Nat} (hi : i < 16) : W.cell? ⟨g, i, none⟩ = some (.int .u64 (r i)) := by
  obtain ⟨cur, h1, h2⟩ := h
  rw [cell_of_row W g i _ _ _ h1, h2 i hi]
theorem RowU.frozen {W : World} {g : Nat} {r : Nat → Nat} (h : RowU W g r) (j : Nat) : W.frozen? ⟨g, j, none⟩ = false := by
  obtain ⟨cur, h1, _⟩ := h
  simp [World.frozen?, h1]
theorem RowU.lt {W : World} {g : Nat} {r : Nat → Nat} (h : RowU W g r) : g < W.heap.size := by
  obtain ⟨cur, h1, _⟩ := h
  exact heap_lt h1
theorem RowU.same {W W' : World} {g : Nat} {r : Nat → Nat} (h : RowU W g r) (e : W'.heap[g]? = W.heap[g]?) : RowU W' g r := by
  obtain ⟨cur, h1, h2⟩ := h
  exact ⟨cur, e.trans h1, h2⟩
theorem RowU.keep {W W' : World} {g : Nat} {r : Nat → Nat} (h : RowU W g r) (hb : Below W.heap.size W W') : RowU W' g r := h.same (hb.block g h.lt)
theorem RowC.keep {W W' : World} {g : Nat} {r : Nat → Int} (h : RowC W g r) (hb : Below W.heap.size W W') : RowC W' g r := h.same (hb.block g h.lt)
theorem RowU.set {W : World} {g : Nat} {r : Nat → Nat} (h : RowU W g r) (j : Nat) (x : Nat) : RowU (W.setCell ⟨g, j, none⟩ (.int .u64 (x : Int))) g fun i => if i = j then x else r i := by
  obtain ⟨cur, h1, h2⟩ := h
  refine ⟨_, heap_setCell_mem W g j _ _ _ _ h1, fun i hi => ?_⟩
  have h3 := h2 i hi
  have hlt : i < cur.size := (Array.getElem?_eq_some_iff.1 h3).1
  show _ = some (Value.int .u64 ((if i = j then x else r i : Nat) : Int))
  by_cases e : i = j
  · subst e
    rw [if_pos rfl, Array.getElem?_setIfInBounds]
    simp [hlt]
  · rw [if_neg e, Array.getElem?_setIfInBounds_ne (fun h => e h.symm)]
    exact h3
theorem RowU.congr {W : World} {g : Nat} {r r' : Nat → Nat} (h : RowU W g r) (e : ∀ i, i < 16 → r i = r' i) : RowU W g r' := by
  obtain ⟨cur, h1, h2⟩ := h
  exact ⟨cur, h1, fun i hi => by rw [h2 i hi, e i hi]⟩
/-- The first k masks. -/
def rowL (r : Nat → Nat) (k : Nat) : List Int := (List.range k).map fun i : Nat => ((r i : Nat) : Int)
theorem rowL_length (r : Nat → Nat) (k : Nat) : (rowL r k).length = k := by unfold rowL; rw [List.length_map, List.length_range]
theorem rowL_succ (r : Nat → Nat) (k : Nat) : rowL r (k + 1) = rowL r k ++ [(r k : Int)] := by unfold rowL; rw [List.range_succ, List.map_append]; rfl
theorem rowL_get {r : Nat → Nat} {k i : Nat} (h : i < k) : (rowL r k)[i]? = some (r i : Int) := by
  unfold rowL
  rw [List.getElem?_map, List.getElem?_range h]
  rfl
theorem rowU_of_own {W : World} {base : Nat} {v : Value} {r : Nat → Nat} (h : W.ownsRow base 48 1 v 16 ((rowL r 16).map (Value.int .u64))) : ∃ g cap, v = .slice (some ⟨g, 0, none⟩) 16 cap ∧ base ≤ g ∧ 16 ≤ cap ∧ RowU W g r := by
  obtain ⟨h1, h2⟩ := h
  rcases h2 with ⟨_, h0⟩ | ⟨g, cap, cur, rfl, hg, hh, hn, hc, hs, ht⟩
  · exact absurd h0 (by decide)
  · refine ⟨g, cap, rfl, hg, hn, cur, hh, fun i hi => ?_⟩
    have e : (cur.toList.take (16 * 1))[i]? = some (.int .u64 (r i)) := by
      rw [ht, List.getElem?_map, rowL_get hi]
      rfl
    rw [List.getElem?_take_of_lt (by omega)] at e
    simpa using e
end Go.Proofs.Ytkgkanmccaodfaa

/-
  Rooms and gaps of the document: rows of sixteen of the call's own.
  Conditions: the slice reads as places; the plan is right.
-/
set_option linter.unusedVariables false
set_option linter.unusedSimpArgs false
namespace Go.Proofs.Ytkgkanmccaodfaa
open Go.RowKit

set_option maxRecDepth 100000 in
set_option maxHeartbeats 4000000 in
theorem refRooms21_any (f : Int) (m : Nat) (v : Value) (l : List Pl) (w : World) (h : PlsAt w v l) (hL : LightL l) (hr : Right f m l) :
    Calls Try.prog 13 #[planA f m v] w (fun e w' => ∃ v', e = .returned v' ∧ w'.ownsRow w.heap.size 3 1 v' 16 ((rmL f m l 16).map (Value.int .i64)) ∧ Below w.heap.size w w') := by
  obtain ⟨i0, hi, hz0, hz1, hz2⟩ := info_parts Try.infoInt
  have HRM := Lib.hid (fun c w h => refRoom_any f m v l c w h hL (shares_of hr.place hr.f64) (by have := hr.m16; omega) (by have := hr.f2; omega) hr.f64)
  have HH := Lib.hid h
  unfold planA at HRM
  obtain ⟨w1, P, hw1, hP, hPl, hb1, hbox⟩ := box_any w #[.int .i64 f, .int .u32 m, v] 25
  have HB1 := Lib.hid hb1
  have HBOX := Lib.hid hbox
  obtain ⟨r0, r1, r2⟩ := three_heads hbox
  clear h hL hr hb1 hbox
  unfold planA
  go_enter Try.func13, Try.ntmps13
  go_wp2_with fail
  clear hw1 hP r0 r1 r2
  have HB0 := Lib.hid (show Below w1.heap.size w1 (w1.alloc (Obj.cells #[] 3)) from (Below.refl _ _).alloc (Nat.le_refl _) _)
  have HO0 : Hid ((w1.alloc (Obj.cells #[] 3)).ownsRow w1.heap.size 3 1 (.slice (some ⟨w1.heap.size, 0, none⟩) 0 0) 0 []) :=
    ⟨rfl, .inr ⟨w1.heap.size, 0, #[], rfl, Nat.le_refl _, heap_alloc_new w1 _, Nat.le_refl _, Nat.zero_le _, rfl, rfl⟩⟩
  go_loopg [3, 4] 16 (fun g s i wr => ∃ k : Nat, k ≤ 16 ∧ g = 16 - k ∧ i = .int .i64 k ∧ Below w1.heap.size w1 wr ∧ wr.ownsRow w1.heap.size 3 1 s k ((rmL f m l k).map (Value.int .i64)))
  case atStart => exact ⟨0, Nat.zero_le _, rfl, rfl, HB0.out, HO0.out⟩
  case round =>
    obtain ⟨k, hk, hg, rfl, hbw, hown⟩ := hrel
    have HG := Lib.hid hg
    have HBW := Lib.hid hbw
    have HO := Lib.hid hown
    have hPl2 : P < wr.heap.size := Nat.lt_of_lt_of_le hPl hbw.size
    have HBX := Lib.hid ((hbw.block P hPl).trans HBOX.out)
    obtain ⟨r0, r1, r2⟩ := three_heads HBX.out
    have HB := Lib.hid (HB1.out.trans (hbw.mono HB1.out.size))
    clear hg hbw hown
    by_cases hlt : k < 16
    · obtain ⟨x, hx⟩ : ∃ x, roomN f m l (k : Int) = x := ⟨_, rfl⟩
      have HX := Lib.hid hx
      have HRC := Lib.hid (HRM.out (k : Int) wr (HH.out.keep HB.out))
      rw [hx] at HRC
      clear hx
      go_wp2_with fail
      refine HRC.out.mono ?_
      rintro e w3 ⟨rfl, hb⟩
      have HB2 := Lib.hid (HBW.out.trans (hb.mono HBW.out.size))
      have HO2 := Lib.hid (own_below5 HO.out hb)
      have hsz := HB2.out.size
      clear hb
      go_wp2_with (at_builtin; refine wpList_append_own _ rfl _ _ 29 rfl w1.heap.size 3 i0 (.int .i64 0) 1 8 Try.underlying29 hi hz0 hz1 hz2 rfl (by decide) _ _ _ rfl (HO2.out.alloc _) ⟨w3.heap.size, 0, none⟩ 1 1 [.int .i64 x] rfl rfl ?c1 ?c2 ?c3 ?c4 ?c5 ?_)
      case c1 =>
        intro j u hj
        rcases j with _ | j
        · simpa [Addr.add] using hj
        · simp at hj
      case c2 => intro u hu; simp at hu; subst hu; rfl
      case c3 => unfold maxLen; omega
      case c4 => omega
      case c5 => simp; omega
      intro v2 w2 hown2 hgrow _
      have HB3 := Lib.hid ((HB2.out.alloc hsz _).trans (below_grown4 hgrow (by simp; omega) (own_base4 HO2.out)))
      have HO3 := Lib.hid hown2
      clear hown2 hgrow hsz
      go_wp2
      go_roundg (16 - (k + 1))
      case measure => have := HG.out; omega
      case rel =>
        refine ⟨k + 1, by omega, rfl, by go_num, HB3.out, ?_⟩
        have e := HO3.out
        rw [rmL_succ, List.map_append, HX.out]
        exact e
    · have hk16 : k = 16 := by omega
      subst hk16
      have HBE := Lib.hid (HB1.out.trans (HBW.out.mono HB1.out.size))
      have HOE := Lib.hid (own_mono5 HO.out (show w.heap.size ≤ w1.heap.size from HB1.out.size))
      go_wp2
      go_ret
      exact ⟨_, rfl, HOE.out, HBE.out⟩
set_option maxRecDepth 100000 in
set_option maxHeartbeats 4000000 in
theorem refGaps_any (f : Int) (m : Nat) (v : Value) (l : List Pl) (w : World) (h : PlsAt w v l) (hL : LightL l) (hr : Right f m l) :
    Calls Try.prog 12 #[planA f m v] w (fun e w' => ∃ v', e = .returned v' ∧ w'.ownsRow w.heap.size 48 1 v' 16 ((rowL (gapT f m l) 16).map (Value.int .u64)) ∧ Below w.heap.size w w') := by
  obtain ⟨i0, hi, hz0, hz1, hz2⟩ := info_parts Try.infoU64
  have HHC := Lib.hid (fun c W => refHasC_any f m v c W (by have := hr.m16; omega))
  have HWI := Lib.hid (fun (c : Int) W (h : PlsAt W v l) (h0 : 0 ≤ c) => refWindows_any f m v l c W h (by have := hL.len; omega) hL.ok h0)
  have HAL := Lib.hid (fun W => refAll_any f W)
  have HGS := Lib.hid (fun c (hc : c < 16) (hb : m.testBit c = true) => gap_sub hr hc hb)
  have HGN := Lib.hid (fun c (hb : ¬ m.testBit c = true) => gap_none (f := f) (m := m) (l := l) (c := c) hb)
  have hfr : frN f = f.toNat := by have := hr.f2; have := hr.f64; unfold frN; omega
  have HFN := Lib.hid hfr
  rw [hfr] at HAL
  have HH := Lib.hid h
  unfold planA at HHC HWI
  obtain ⟨w1, P, hw1, hP, hPl, hb1, hbox⟩ := box_any w #[.int .i64 f, .int .u32 m, v] 25
  have HB1 := Lib.hid hb1
  have HBOX := Lib.hid hbox
  obtain ⟨r0, r1, r2⟩ := three_heads hbox
  clear h hL hr hb1 hbox hfr
  unfold planA
  go_enter Try.func12, Try.ntmps12
  go_wp2_with fail
  clear hw1 hP r0 r1 r2
  have HB0 := Lib.hid (show Below w1.heap.size w1 (w1.alloc (Obj.cells #[] 48)) from (Below.refl _ _).alloc (Nat.le_refl _) _)
  have HO0 : Hid ((w1.alloc (Obj.cells #[] 48)).ownsRow w1.heap.size 48 1 (.slice (some ⟨w1.heap.size, 0, none⟩) 0 0) 0 []) :=
    ⟨rfl, .inr ⟨w1.heap.size, 0, #[], rfl, Nat.le_refl _, heap_alloc_new w1 _, Nat.le_refl _, Nat.zero_le _, rfl, rfl⟩⟩
  go_loopg [3, 4] 16 (fun g s i wr => ∃ k : Nat, k ≤ 16 ∧ g = 16 - k ∧ i = .int .i64 k ∧ Below w1.heap.size w1 wr ∧ wr.ownsRow w1.heap.size 48 1 s k ((rowL (gapT f m l) k).map (Value.int .u64)))
  case atStart => exact ⟨0, Nat.zero_le _, rfl, rfl, HB0.out, HO0.out⟩
  case round =>
    obtain ⟨k, hk, hg, rfl, hbw, hown⟩ := hrel
    have HG := Lib.hid hg
    have HBW := Lib.hid hbw
    have HO := Lib.hid hown
    have hPl2 : P < wr.heap.size := Nat.lt_of_lt_of_le hPl hbw.size
    have HBX := Lib.hid ((hbw.block P hPl).trans HBOX.out)
    obtain ⟨r0, r1, r2⟩ := three_heads HBX.out
    have HB := Lib.hid (HB1.out.trans (hbw.mono HB1.out.size))
    clear hg hbw hown
    by_cases hlt : k < 16
    · have HHK := Lib.hid (HHC.out (k : Int) wr)
      rw [hasC_nat hlt] at HHK
      have HWK := Lib.hid (fun W h => HWI.out (k : Int) W h (by omega))
      have HSA : Hid (∀ W, Below wr.heap.size wr W → W.cell? ⟨P, 0, none⟩ = some (.int .i64 f) ∧ W.cell? ⟨P, 1, none⟩ = some (.int .u32 m) ∧ W.cell? ⟨P, 2, none⟩ = some v) := Lib.hid (fun W hk => three_heads ((hk.block P hPl2).trans HBX.out))
      obtain ⟨y, hy⟩ : ∃ y, gapT f m l k = y := ⟨_, rfl⟩
      have HX := Lib.hid hy
      obtain ⟨b, hb⟩ : ∃ b, m.testBit k = b := ⟨_, rfl⟩
      have HBT := Lib.hid hb
      rw [hb] at HHK
      cases b with
      | true =>
        have HGE := Lib.hid (HGS.out k hlt HBT.out)
        rw [hy] at HGE
        obtain ⟨B, hB⟩ : ∃ B, winN (pcsOf l) (k : Int) = B := ⟨_, rfl⟩
        have hyl : y < 18446744073709551616 := by rw [← hy]; exact gap_lt f m l k
        rw [hB] at HGE HWK
        obtain ⟨A, hA⟩ : ∃ A, allN f.toNat = A := ⟨_, rfl⟩
        rw [hA] at HGE HAL
        have hsub : IntKind.u64.wrap ((A : Int) - (B : Int)) = (y : Int) := by
          have h0 := HGE.out
          rw [show (A : Int) - (B : Int) = (y : Int) by omega]
          exact wrapU y hyl
        clear hy hb hB hA
        go_wp2_with fail
        refine HHK.out.mono ?_
        rintro e w3 ⟨rfl, hb3⟩
        have HK3 := Lib.hid hb3
        have hkd := hb3.drew
        clear hb3
        go_wp2_with fail
        refine wp_region_held_drew (S := fun w' => w'.cell? ⟨P, 0, none⟩ = some (.int .i64 f) ∧ w'.cell? ⟨P, 1, none⟩ = some (.int .u32 m) ∧ w'.cell? ⟨P, 2, none⟩ = some (v)) (by kernel_rfl) ?_ (fun hHeld => ?_)
        · exact HSA.out _ hkd
        refine wpAnyH_take (i := 0) (oi := ⟨some 14, _, _, _, _, _⟩) (v := ?_) rfl (by kernel_rfl) (by kernel_rfl) (by kernel_rfl) (fun _ _ _ h => h) (Or.inl ⟨by kernel_rfl, ?_⟩) (by assumption) ?_
        rotate_left
        · (intro w hSw; (try dsimp only at hSw); go_simp; try with_reducible rfl)
        (try simp only [Act.put, List.setIfInBounds_toArray, List.set_cons_zero, List.set_cons_succ])
        refine wpAnyH_take (i := 1) (oi := ⟨some 15, _, _, _, _, _⟩) (v := ?_) rfl (by kernel_rfl) (by kernel_rfl) (by kernel_rfl) (fun _ _ _ h => h) (Or.inl ⟨by kernel_rfl, ?_⟩) (by assumption) ?_
        rotate_left
        · (intro w hSw; (try dsimp only at hSw); go_simp; try with_reducible rfl)
        (try simp only [Act.put, List.setIfInBounds_toArray, List.set_cons_zero, List.set_cons_succ])
        refine wpAnyH_take (i := 3) (oi := ⟨some 17, _, _, _, _, _⟩) (v := ?_) rfl (by kernel_rfl) (by kernel_rfl) (by kernel_rfl) (fun _ _ _ h => h) (Or.inl ⟨by kernel_rfl, ?_⟩) (by assumption) ?_
        rotate_left
        · (intro w hSw; (try dsimp only at hSw); go_simp; try with_reducible rfl)
        (try simp only [Act.put, List.setIfInBounds_toArray, List.set_cons_zero, List.set_cons_succ])
        refine wpAnyH_take (i := 4) (oi := ⟨some 18, _, _, _, _, _⟩) (v := ?_) rfl (by kernel_rfl) (by kernel_rfl) (by kernel_rfl) (fun _ _ _ h => h) (Or.inl ⟨by kernel_rfl, ?_⟩) (by assumption) ?_
        rotate_left
        · (intro w hSw; (try dsimp only at hSw); go_simp; try with_reducible rfl)
        (try simp only [Act.put, List.setIfInBounds_toArray, List.set_cons_zero, List.set_cons_succ])
        refine wpAnyH_ready (rs := [2]) (by kernel_rfl) (by simp) ?_
        refine AllReadyH.cons (o := ⟨some 16, _, _, _, _, _⟩) rfl (fun K hK => ?_) AllReadyH.nil
        rw [if_pos (by kernel_rfl)]
        go_simp
        go_at_call 33; refine (HAL.out _).mono ?_; rintro e wb ⟨rfl, rfl⟩
        refine hK.out _ _ ?_ (fun hHeld => ?_)
        · exact HSA.out _ hkd
        clear hK K
        (try simp only [Act.put, List.setIfInBounds_toArray, List.set_cons_zero, List.set_cons_succ])
        refine wpAnyH_ready (rs := [5]) (by kernel_rfl) (by simp) ?_
        refine AllReadyH.cons (o := ⟨some 19, _, _, _, _, _⟩) rfl (fun K hK => ?_) AllReadyH.nil
        rw [if_pos (by kernel_rfl)]
        go_simp
        go_at_call 34; refine (HWK.out _ (HH.out.keep (HB.out.trans (hkd.mono HB.out.size)))).mono ?_; rintro e wc ⟨rfl, hbc⟩
        have hkc := hkd.trans (hbc.mono hkd.size)
        refine hK.out _ _ ?_ (fun hHeld => ?_)
        · exact HSA.out _ hkc
        clear hK K
        (try simp only [Act.put, List.setIfInBounds_toArray, List.set_cons_zero, List.set_cons_succ])
        refine wpAnyH_take (i := 6) (oi := ⟨some 20, _, _, _, _, _⟩) (v := ?_) rfl (by kernel_rfl) (by kernel_rfl) (by kernel_rfl) (fun _ _ _ h => h) (Or.inl ⟨by kernel_rfl, ?_⟩) (by assumption) ?_
        rotate_left
        · (intro w hSw; (try dsimp only at hSw); go_simp; try with_reducible rfl)
        (try simp only [Act.put, List.setIfInBounds_toArray, List.set_cons_zero, List.set_cons_succ])
        refine wpAnyH_take (i := 7) (oi := ⟨some 5, _, _, _, _, _⟩) (v := ?_) rfl (by kernel_rfl) (by kernel_rfl) (by kernel_rfl) (fun _ _ _ h => h) (Or.inl ⟨by kernel_rfl, ?_⟩) (by assumption) ?_
        rotate_left
        · (intro w hSw; (try dsimp only at hSw); go_simp; try with_reducible rfl)
        (try simp only [Act.put, List.setIfInBounds_toArray, List.set_cons_zero, List.set_cons_succ])
        refine wpAnyH_done (by kernel_rfl) ?_ _
        have HB2 := Lib.hid (HBW.out.trans (hkc.mono HBW.out.size))
        have HO2 := Lib.hid (own_below5 HO.out hkc)
        have hsz := HB2.out.size
        clear hHeld hkc hkd hbc
        go_wp2_with (at_builtin; refine wpList_append_own _ rfl _ _ 32 rfl w1.heap.size 48 i0 (.int .u64 0) 1 8 Try.underlying32 hi hz0 hz1 hz2 rfl (by decide) _ _ _ rfl (HO2.out.alloc _) ⟨wc.heap.size, 0, none⟩ 1 1 [.int .u64 (y : Nat)] rfl rfl ?c1 ?c2 ?c3 ?c4 ?c5 ?_)
        case c1 =>
          intro j u hj
          rcases j with _ | j
          · simpa [Addr.add] using hj
          · simp at hj
        case c2 => intro u hu; simp at hu; subst hu; rfl
        case c3 => unfold maxLen; omega
        case c4 => omega
        case c5 => simp; omega
        intro v2 w2 hown2 hgrow _
        have HB3 := Lib.hid ((HB2.out.alloc hsz _).trans (below_grown4 hgrow (by simp; omega) (own_base4 HO2.out)))
        have HO3 := Lib.hid hown2
        clear hown2 hgrow hsz
        go_wp2
        go_roundg (16 - (k + 1))
        case measure => have := HG.out; omega
        case rel =>
          refine ⟨k + 1, by omega, rfl, by go_num, HB3.out, ?_⟩
          have e := HO3.out
          rw [rowL_succ, List.map_append, HX.out]
          exact e
      | false =>
        have hy0 : y = 0 := by rw [← hy]; exact HGN.out k (by rw [HBT.out]; decide)
        subst hy0
        clear hy hb
        go_wp2_with fail
        refine HHK.out.mono ?_
        rintro e w3 ⟨rfl, hb3⟩
        have HB2 := Lib.hid (HBW.out.trans (hb3.mono HBW.out.size))
        have HO2 := Lib.hid (own_below5 HO.out hb3)
        have hsz := HB2.out.size
        clear hb3
        go_wp2_with (at_builtin; refine wpList_append_own _ rfl _ _ 32 rfl w1.heap.size 48 i0 (.int .u64 0) 1 8 Try.underlying32 hi hz0 hz1 hz2 rfl (by decide) _ _ _ rfl (HO2.out.alloc _) ⟨w3.heap.size, 0, none⟩ 1 1 [.int .u64 (0 : Nat)] rfl rfl ?c1 ?c2 ?c3 ?c4 ?c5 ?_)
        case c1 =>
          intro j u hj
          rcases j with _ | j
          · simpa [Addr.add] using hj
          · simp at hj
        case c2 => intro u hu; simp at hu; subst hu; rfl
        case c3 => unfold maxLen; omega
        case c4 => omega
        case c5 => simp; omega
        intro v2 w2 hown2 hgrow _
        have HB3 := Lib.hid ((HB2.out.alloc hsz _).trans (below_grown4 hgrow (by simp; omega) (own_base4 HO2.out)))
        have HO3 := Lib.hid hown2
        clear hown2 hgrow hsz
        go_wp2
        go_roundg (16 - (k + 1))
        case measure => have := HG.out; omega
        case rel =>
          refine ⟨k + 1, by omega, rfl, by go_num, HB3.out, ?_⟩
          have e := HO3.out
          rw [rowL_succ, List.map_append, HX.out]
          exact e
    · have hk16 : k = 16 := by omega
      subst hk16
      have HBE := Lib.hid (HB1.out.trans (HBW.out.mono HB1.out.size))
      have HOE := Lib.hid (own_mono5 HO.out (show w.heap.size ≤ w1.heap.size from HB1.out.size))
      go_wp2
      go_ret
      exact ⟨_, rfl, HOE.out, HBE.out⟩
end Go.Proofs.Ytkgkanmccaodfaa

/-
  The least sum of the document, set by set of cores.
  Conditions: the slices are rows of sixteen masks, and of sixteen small numbers.
-/
set_option linter.unusedVariables false
set_option linter.unusedSimpArgs false
namespace Go.Proofs.Ytkgkanmccaodfaa
open Go.RowKit

set_option maxRecDepth 100000 in
set_option maxHeartbeats 4000000 in
theorem refLeast_any (gm r : Nat → Nat) (g h c1 c2 : Nat) (h1 : 16 ≤ c1) (h2 : 16 ≤ c2) (hg : ∀ c, c < 16 → gm c < 18446744073709551616) (hr : ∀ c, c < 16 → r c ≤ 64) :
    ∀ (d k i o : Nat) (w : World), k + d = 16 → i < 18446744073709551616 → o ≤ 64 * k → RowU w g gm → RowC w h (fun c => ((r c : Nat) : Int)) →
    Calls Try.prog 32 #[.slice (some ⟨g, 0, none⟩) 16 c1, .slice (some ⟨h, 0, none⟩) 16 c2, .int .i64 (k : Int), .int .u64 (i : Int), .int .i64 (o : Int)] w (RetB (.int .i64 (leastL (rowK gm r d) i o : Nat)) w)
  | 0, k, i, o, w, hk, hi, ho, hG, hR => by
    have hk16 : k = 16 := by omega
    subst hk16
    have HC := Lib.hid (refCount_any i w hi)
    obtain ⟨n, hn⟩ : ∃ n, cnt i = n := ⟨_, rfl⟩
    have hn64 : n ≤ 64 := by rw [← hn]; exact cnt_le i
    rw [hn] at HC
    have HE : Hid (((leastL (rowK gm r 0) i o : Nat) : Int) = (n : Int) + (o : Int)) := Lib.hid (by rw [← hn]; exact Int.natCast_add _ _)
    clear hk hi hG hR hn hg hr
    go_enter Try.func32, Try.ntmps32
    go_wp2_with fail
    refine HC.out.mono ?_
    rintro e w1 ⟨rfl, hb⟩
    have HB := Lib.hid hb
    clear hb
    go_wp2
    go_ret
    exact ⟨by rw [HE.out]; go_num, HB.out⟩
  | d + 1, k, i, o, w, hk, hi, ho, hG, hR => by
    have ih := fun i o w => refLeast_any gm r g h c1 c2 h1 h2 hg hr d (k + 1) i o w (by omega)
    have hk15 : 15 - d = k := by omega
    have hlt : k < 16 := by omega
    have hgk := hg k hlt
    have hrk := hr k hlt
    have HE : Hid (leastL (rowK gm r (d + 1)) i o = if r k = 0 then leastL (rowK gm r d) i o else min (leastL (rowK gm r d) (i ||| gm k) o) (leastL (rowK gm r d) i (o + r k))) := Lib.hid (by
      rw [rowK, leastL, hk15])
    have hG0 := hG.cell hlt
    have hR0 := hR.cell hlt
    have HG := Lib.hid hG
    have HR := Lib.hid hR
    have hor : bits .or .u64 (i : Int) (gm k : Int) = ((i ||| gm k : Nat) : Int) := bits_or_u64_nat _ _ hi hgk
    have holt : i ||| gm k < 18446744073709551616 := Nat.or_lt_two_pow (n := 64) hi hgk
    have HL1 := Lib.hid (least_le (rowK gm r d) (i ||| gm k) o)
    have HL2 := Lib.hid (least_le (rowK gm r d) i (o + r k))
    have HC0 := Lib.hid (ih i o w hi (by omega) hG hR)
    have HC1 := Lib.hid (ih (i ||| gm k) o w holt (by omega) hG hR)
    have HC2 := Lib.hid (fun W (hb : Below w.heap.size w W) => ih i (o + r k) W hi (by omega) (hG.keep hb) (hR.keep hb))
    have HRK : Hid (∀ W, Below w.heap.size w W → W.cell? ⟨h, k, none⟩ = some (.int .i64 ((r k : Nat) : Int))) := Lib.hid (fun W hb => (hR.keep hb).cell hlt)
    rw [Int.natCast_succ] at HC0 HC1 HC2
    rw [Int.natCast_add] at HC2
    clear ih hG hR hg hr HG HR hgk hi
    generalize gm k = G at *
    generalize r k = R at *
    obtain ⟨O, hO⟩ : ∃ O, i ||| G = O := ⟨_, rfl⟩
    rw [hO] at hor holt HE HL1 HC1
    clear hO
    obtain ⟨a, ha⟩ : ∃ a, leastL (rowK gm r d) O o = a := ⟨_, rfl⟩
    obtain ⟨b, hb⟩ : ∃ b, leastL (rowK gm r d) i (o + R) = b := ⟨_, rfl⟩
    rw [ha] at HE HL1 HC1
    rw [hb] at HE HL2 HC2
    clear ha hb hk15
    have hk0 : (0 : Int) ≤ (k : Int) := by omega
    have hk16 : (k : Int) < 16 := by omega
    have hkne : ((k : Int) == 16) = false := by simp; omega
    by_cases h0 : R = 0
    · subst h0
      rw [if_pos rfl] at HE
      clear HC1 HC2 HL1 HL2
      go_enter Try.func32, Try.ntmps32
      go_wp2_with fail
      refine HC0.out.mono ?_
      rintro e w1 ⟨rfl, hb⟩
      have HB := Lib.hid hb
      clear hb
      go_wp2_with fail
      go_ret
      exact ⟨by rw [HE.out]; rfl, HB.out⟩
    · rw [if_neg h0] at HE
      have hz : ((R : Int) == 0) = false := by simp; exact h0
      clear HC0
      have hsum : 0 ≤ (o : Int) + (R : Int) ∧ (o : Int) + (R : Int) ≤ 100000 := by omega
      obtain ⟨hs1, hs2⟩ := hsum
      go_enter Try.func32, Try.ntmps32
      go_wp2_with fail
      refine HC1.out.mono ?_
      rintro e w1 ⟨rfl, hb⟩
      have HB := Lib.hid hb
      clear hb hR0
      have hR1 := HRK.out w1 HB.out
      go_wp2_with fail
      refine (HC2.out w1 HB.out).mono ?_
      rintro e w2 ⟨rfl, hb⟩
      have HB2 := Lib.hid (HB.out.trans (hb.mono HB.out.size))
      clear hb
      have ha := HL1.out
      have hbb := HL2.out
      by_cases hlt : b < a
      · have hd : decide ((b : Int) < (a : Int)) = true := decide_eq_true (by omega)
        have HF : Hid (((leastL (rowK gm r (d + 1)) i o : Nat) : Int) = (b : Int)) := Lib.hid (by rw [HE.out, Nat.min_eq_right (by omega)])
        clear ha hbb
        go_wp2_with fail
        go_ret
        exact ⟨by rw [HF.out]; rfl, HB2.out⟩
      · have hd : decide ((b : Int) < (a : Int)) = false := decide_eq_false (by omega)
        have HF : Hid (((leastL (rowK gm r (d + 1)) i o : Nat) : Int) = (a : Int)) := Lib.hid (by rw [HE.out, Nat.min_eq_left (by omega)])
        clear ha hbb
        go_wp2_with fail
        go_ret
        exact ⟨by rw [HF.out]; rfl, HB2.out⟩
end Go.Proofs.Ytkgkanmccaodfaa

/-
  How many ticks the document says are available from a tick on.
  Conditions: the slices are rows of sixteen masks, and of sixteen small numbers.
-/
set_option linter.unusedVariables false
set_option linter.unusedSimpArgs false
namespace Go.Proofs.Ytkgkanmccaodfaa
open Go.RowKit

/-- The ticks of a mask from k on, below T. -/
def partN (k T m : Nat) : Nat := setP fun j => m.testBit j && decide (k ≤ j) && decide (j < T)
theorem partN_lt (k T m : Nat) : partN k T m < 18446744073709551616 := setP_lt _
theorem partN_none (k m : Nat) : partN k k m = 0 := setP_zero fun j _ => by
  by_cases h : k ≤ j
  · rw [decide_eq_false (show ¬ j < k by omega), Bool.and_false]
  · rw [decide_eq_false h, Bool.and_false, Bool.false_and]
theorem partN_all (k m : Nat) : partN k 64 m = fromN k m := setP_congr fun j hj => by rw [decide_eq_true hj, Bool.and_true]
theorem partN_no {k T m : Nat} (h : m.testBit T = false) : partN k (T + 1) m = partN k T m := setP_congr fun j _ => by
  by_cases e : j = T
  · subst e; rw [h]; rfl
  · rw [show decide (j < T + 1) = decide (j < T) from decide_eq_decide.2 (by omega)]
theorem partN_yes {k T m : Nat} (hk : k ≤ T) (hT : T < 64) (h : m.testBit T = true) : withI (partN k T m) (T : Int) = partN k (T + 1) m := by
  rw [withI_nat hT]
  refine eq_of_bits (withN_lt (partN_lt _ _ _) hT) (partN_lt _ _ _) fun j hj => ?_
  unfold partN
  rw [withN_bit, setP_bit, setP_bit, decide_eq_true hj, Bool.true_and, Bool.true_and]
  by_cases e : T = j
  · subst e
    rw [h, decide_eq_true hk, decide_eq_true (show T < T + 1 by omega), decide_eq_true rfl, Bool.or_true]
    rfl
  · rw [decide_eq_false e, Bool.or_false, show decide (j < T + 1) = decide (j < T) from decide_eq_decide.2 (by omega)]

set_option maxRecDepth 100000 in
set_option maxHeartbeats 8000000 in
theorem refMost_any (gm r : Nat → Nat) (g h c1 c2 : Nat) (h1 : 16 ≤ c1) (h2 : 16 ≤ c2) (hg : ∀ c, c < 16 → gm c < 18446744073709551616) (hr : ∀ c, c < 16 → r c ≤ 64) (k : Nat) (hk : k ≤ 64) (w : World) (hG : RowU w g gm) (hR : RowC w h (fun c => ((r c : Nat) : Int))) :
    Calls Try.prog 11 #[.slice (some ⟨g, 0, none⟩) 16 c1, .slice (some ⟨h, 0, none⟩) 16 c2, .int .i64 (k : Int)] w (RetB (.int .i64 (mostT gm r k : Nat)) w) := by
  obtain ⟨i0, hi, hz0, hz1, hz2⟩ := info_parts Try.infoU64
  have HL := Lib.hid (fun g' c' (hc : 16 ≤ c') w hG hR => refLeast_any (fun c => fromN k (gm c)) r g' h c' c2 hc h2 (fun c _ => setP_lt _) hr 16 0 0 0 w rfl (by decide) (by omega) hG hR)
  rw [← most_row] at HL
  obtain ⟨M, hM⟩ : ∃ M, mostT gm r k = M := ⟨_, rfl⟩
  rw [hM] at HL ⊢
  have HGM := Lib.hid hg
  have HHA := Lib.hid (fun c (hc : c < 16) (t : Nat) (ht : t < 64) W => refHas_any (gm c) (t : Int) W (hg c hc))
  have HWI := Lib.hid (fun c (T : Nat) W => with_any (partN k T (gm c)) (T : Int) W (partN_lt _ _ _))
  have HG := Lib.hid hG
  have HR := Lib.hid hR
  clear hM hg hr hG hR
  have HB0 := Lib.hid (show Below w.heap.size w (w.alloc (Obj.cells #[] 48)) from (Below.refl _ _).alloc (Nat.le_refl _) _)
  have HO0 : Hid ((w.alloc (Obj.cells #[] 48)).ownsRow w.heap.size 48 1 (.slice (some ⟨w.heap.size, 0, none⟩) 0 0) 0 []) :=
    ⟨rfl, .inr ⟨w.heap.size, 0, #[], rfl, Nat.le_refl _, heap_alloc_new w _, Nat.le_refl _, Nat.zero_le _, rfl, rfl⟩⟩
  go_enter Try.func11, Try.ntmps11
  go_wp2_with fail
  go_loopg [7, 8] 16 (fun gg s i wr => ∃ c : Nat, c ≤ 16 ∧ gg = 16 - c ∧ i = .int .i64 c ∧ Below w.heap.size w wr ∧ wr.ownsRow w.heap.size 48 1 s c ((rowL (fun c => fromN k (gm c)) c).map (Value.int .u64)))
  case atStart => exact ⟨0, Nat.zero_le _, rfl, rfl, HB0.out, HO0.out⟩
  case round =>
    obtain ⟨c, hc, hgg, rfl, hbw, hown⟩ := hrel
    have HGG := Lib.hid hgg
    have HBW := Lib.hid hbw
    have HO := Lib.hid hown
    clear hgg hbw hown
    by_cases hlt : c < 16
    · have HUC := Lib.hid (HG.out.keep HBW.out)
      have hcell := HUC.out.cell hlt
      have HHC := Lib.hid (HHA.out c hlt)
      have HWC := Lib.hid (HWI.out c)
      obtain ⟨Q, hQ⟩ : ∃ Q, gm c = Q := ⟨_, rfl⟩
      have HQ := Lib.hid hQ
      rw [hQ] at hcell HHC HWC
      clear hQ
      obtain ⟨wo, hwo⟩ : ∃ wo, wo = wr := ⟨_, rfl⟩
      subst hwo
      have hcz : (c : Int) < 16 := by omega
      go_wp2_with fail
      have hk0 : (0 : Int) ≤ (k : Int) := by omega
      go_loopg [9, 10] (64 - k) (fun gg s9 s10 w' => ∃ T : Nat, k ≤ T ∧ T ≤ 64 ∧ gg = 64 - T ∧ s9 = .int .u64 (partN k T Q : Nat) ∧ s10 = .int .i64 T ∧ w' = wo)
      case atStart => exact ⟨k, Nat.le_refl _, hk, rfl, by rw [partN_none]; rfl, rfl, rfl⟩
      case round =>
        obtain ⟨T, hT1, hT2, hgg, rfl, rfl, hww⟩ := hrel
        subst hww
        have HG3 := Lib.hid hgg
        clear hgg
        by_cases hlt2 : T < 64
        · have hTz : (T : Int) < 64 := by omega
          have hT0 : (0 : Int) ≤ (T : Int) := by omega
          have HHT := Lib.hid (HHC.out T hlt2)
          have HWT := Lib.hid (HWC.out T)
          rw [hasB_nat hlt2] at HHT
          obtain ⟨b, hb⟩ : ∃ b, Q.testBit T = b := ⟨_, rfl⟩
          rw [hb] at HHT
          cases b with
          | true =>
            rw [partN_yes hT1 hlt2 hb] at HWT
            obtain ⟨A, hA⟩ : ∃ A, partN k T Q = A := ⟨_, rfl⟩
            obtain ⟨A', hA'⟩ : ∃ A, partN k (T + 1) Q = A := ⟨_, rfl⟩
            rw [hA, hA'] at HWT
            rw [hA]
            have HA' := Lib.hid hA'
            clear hA hA' hb
            go_wp2_with (first | (go_at_call 30; refine (HHT.out _).mono ?_; rintro e w' ⟨rfl, rfl⟩) | (go_at_call 31; refine (HWT.out _).mono ?_; rintro e w' ⟨rfl, rfl⟩))
            go_roundg (64 - (T + 1))
            case measure => have := HG3.out; omega
            case rel => exact ⟨T + 1, by omega, by omega, rfl, by rw [HA'.out], by go_num, rfl⟩
          | false =>
            have HN := Lib.hid (partN_no (k := k) hb)
            obtain ⟨A, hA⟩ : ∃ A, partN k T Q = A := ⟨_, rfl⟩
            rw [hA] at HN ⊢
            clear hA hb
            go_wp2_with (go_at_call 30; refine (HHT.out _).mono ?_; rintro e w' ⟨rfl, rfl⟩)
            go_roundg (64 - (T + 1))
            case measure => have := HG3.out; omega
            case rel => exact ⟨T + 1, by omega, by omega, rfl, by rw [HN.out], by go_num, rfl⟩
        · have hT64 : T = 64 := by omega
          subst hT64
          rw [partN_all]
          obtain ⟨y, hy⟩ : ∃ y, fromN k Q = y := ⟨_, rfl⟩
          rw [hy]
          have HX : Hid (fromN k (gm c) = y) := Lib.hid (by rw [HQ.out]; exact hy)
          clear hy
          have hsz := HBW.out.size
          go_wp2_with (at_builtin; refine wpList_append_own _ rfl _ _ 32 rfl w.heap.size 48 i0 (.int .u64 0) 1 8 Try.underlying32 hi hz0 hz1 hz2 rfl (by decide) _ _ _ rfl (HO.out.alloc _) ⟨wr.heap.size, 0, none⟩ 1 1 [.int .u64 (y : Nat)] rfl rfl ?c1 ?c2 ?c3 ?c4 ?c5 ?_)
          case c1 =>
            intro j u hj
            rcases j with _ | j
            · simpa [Addr.add] using hj
            · simp at hj
          case c2 => intro u hu; simp at hu; subst hu; rfl
          case c3 => unfold maxLen; omega
          case c4 => omega
          case c5 => simp; omega
          intro v2 w2 hown2 hgrow _
          have HB3 := Lib.hid ((HBW.out.alloc hsz _).trans (below_grown4 hgrow (by simp; omega) (own_base4 HO.out)))
          have HO3 := Lib.hid hown2
          clear hown2 hgrow hsz
          go_wp2
          go_roundg (16 - (c + 1))
          case measure => have := HGG.out; omega
          case rel =>
            refine ⟨c + 1, by omega, rfl, by go_num, HB3.out, ?_⟩
            have e := HO3.out
            rw [rowL_succ, List.map_append, HX.out]
            exact e
    · have hc16 : c = 16 := by omega
      subst hc16
      obtain ⟨g', c', rfl, hg', hc', hrow⟩ := rowU_of_own HO.out
      have HCL := Lib.hid (HL.out g' c' hc' wr hrow (HR.out.keep HBW.out))
      go_wp2_with fail
      refine HCL.out.mono ?_
      rintro e w1 ⟨rfl, hb⟩
      have HB := Lib.hid (HBW.out.trans (hb.mono HBW.out.size))
      clear hb
      go_wp2
      go_ret
      exact ⟨rfl, HB.out⟩
end Go.Proofs.Ytkgkanmccaodfaa

/-
  Why a want is not woven; the plan with one that is.
  Conditions: none.
-/
set_option linter.unusedVariables false
namespace Go.Proofs.Ytkgkanmccaodfaa

/-- A want that goes between the windows. -/
structure WvGoes (f : Int) (m : Nat) (l : List Pl) (w : Sp) : Prop where
  goes : Goes f m l [w]
  none : firstR f m l w.2 = .none
  few : splitsN l + 1 < coresN m
  most : w.2.toNat ≤ mostT (gapT f m l) (rmN f m l) 0
/-- Why not, the errors in their order. -/
def Why21 (f : Int) (m : Nat) (l : List Pl) (w : Sp) (E : Int) : Prop :=
  (E ≠ 0 ∧ Why f m l [w] E) ∨ (Goes f m l [w] ∧ (firstR f m l w.2 ≠ .none ∨ coresN m ≤ splitsN l + 1) ∧ E = 15) ∨
  (Goes f m l [w] ∧ firstR f m l w.2 = .none ∧ splitsN l + 1 < coresN m ∧ mostT (gapT f m l) (rmN f m l) 0 < w.2.toNat ∧ E = 12) ∨ (WvGoes f m l w ∧ E = 0)
theorem Why21.unique {f : Int} {m : Nat} {l : List Pl} {w : Sp} {E E' : Int} (h : Why21 f m l w E) (h' : Why21 f m l w E') : E = E' := by
  have hz : ∀ {E : Int}, E ≠ 0 → Why f m l [w] E → ¬ Goes f m l [w] := fun h0 hw hg => h0 (hw.unique hg.why)
  rcases h with ⟨h1, h2⟩ | ⟨h1, h2, rfl⟩ | ⟨h1, h2, h3, h4, rfl⟩ | ⟨h1, rfl⟩ <;> rcases h' with ⟨k1, k2⟩ | ⟨k1, k2, rfl⟩ | ⟨k1, k2, k3, k4, rfl⟩ | ⟨k1, rfl⟩
  · exact h2.unique k2
  · exact absurd k1 (hz h1 h2)
  · exact absurd k1 (hz h1 h2)
  · exact absurd k1.goes (hz h1 h2)
  · exact absurd h1 (hz k1 k2)
  · rfl
  · rcases h2 with h2 | h2
    · exact absurd k2 h2
    · omega
  · have := k1.few
    rcases h2 with h2 | h2
    · exact absurd k1.none h2
    · omega
  · exact absurd h1 (hz k1 k2)
  · rcases k2 with k2 | k2
    · exact absurd h2 k2
    · omega
  · rfl
  · have := k1.most
    omega
  · exact absurd h1.goes (hz k1 k2)
  · have := h1.few
    rcases k2 with k2 | k2
    · exact absurd h1.none k2
    · omega
  · have := h1.most
    omega
  · rfl
theorem Why21.zero {f : Int} {m : Nat} {l : List Pl} {w : Sp} (h : Why21 f m l w 0) : WvGoes f m l w := by
  rcases h with ⟨h1, _⟩ | ⟨_, _, h1⟩ | ⟨_, _, _, _, h1⟩ | ⟨h1, _⟩
  · exact absurd rfl h1
  · exact absurd h1 (by decide)
  · exact absurd h1 (by decide)
  · exact h1
theorem WvGoes.why {f : Int} {m : Nat} {l : List Pl} {w : Sp} (h : WvGoes f m l w) : Why21 f m l w 0 := .inr (.inr (.inr ⟨h, rfl⟩))
theorem Why21.some (f : Int) (m : Nat) (l : List Pl) (w : Sp) : ∃ E, Why21 f m l w E := by
  by_cases hR : Right f m l
  · by_cases hc : chkT f [w] = 0
    · by_cases ha : anyB l [w] = true
      · exact ⟨11, .inl ⟨by decide, .inr (.inr (.inl ⟨hR, hc, ha, rfl⟩))⟩⟩
      · have hG : Goes f m l [w] := ⟨hR, hc, by simpa using ha⟩
        by_cases hf : firstR f m l w.2 ≠ .none ∨ coresN m ≤ splitsN l + 1
        · exact ⟨15, .inr (.inl ⟨hG, hf, rfl⟩)⟩
        · have h1 : firstR f m l w.2 = .none := by
            cases h : firstR f m l w.2 with
            | none => rfl
            | some c => exact absurd (.inl (by rw [h]; exact fun e => by cases e)) hf
          have h2 : splitsN l + 1 < coresN m := by
            rcases Nat.lt_or_ge (splitsN l + 1) (coresN m) with h | h
            · exact h
            · exact absurd (.inr h) hf
          by_cases hm : w.2.toNat ≤ mostT (gapT f m l) (rmN f m l) 0
          · exact ⟨0, .inr (.inr (.inr ⟨⟨hG, h1, h2, hm⟩, rfl⟩))⟩
          · exact ⟨12, .inr (.inr (.inl ⟨hG, h1, h2, by omega, rfl⟩))⟩
    · exact ⟨_, .inl ⟨hc, .inr (.inl ⟨hR, hc, rfl⟩)⟩⟩
  · exact ⟨30, .inl ⟨by decide, .inl ⟨hR, rfl⟩⟩⟩
/-- The plan with a woven place. -/
theorem WvGoes.right {f : Int} {m : Nat} {l : List Pl} {w : Sp} (h : WvGoes f m l w) :
    Right f m (addU l (wovenP f m l w)) ∧ 2 ≤ (wovenP f m l w).ps.length ∧ freeT f m (addU l (wovenP f m l w)) 16 = freeT f m l 16 - w.2 := by
  have hR := h.goes.right
  obtain ⟨h1, h2, h3⟩ := (WOk.of_chk h.goes.chk).2.all w (List.mem_singleton.2 rfl)
  refine weave_right hR (fun y hy => anyB_no h.goes.none y hy w (List.mem_singleton.2 rfl)) h1 h2 h3 (fun c hc => ?_) h.few h.most
  have hn := firstR_none.1 h.none c hc
  by_cases hb : m.testBit c = true
  · have k1 := (hR.rm hc).1
    have k2 : ¬ w.2 ≤ roomN f m l (c : Int) := fun hle => by
      have := roomB_iff.2 ⟨hb, hle⟩
      rw [hn] at this
      cases this
    omega
  · rw [rm_no hc hb]
    omega
end Go.Proofs.Ytkgkanmccaodfaa

/-
  Check of the document.
  Conditions: the slice reads as wants.
-/
set_option linter.unusedVariables false
namespace Go.Proofs.Ytkgkanmccaodfaa
open Go.RowKit

set_option maxRecDepth 100000 in
set_option maxHeartbeats 4000000 in
theorem refCheck_any (f : Int) (v : Value) (ps : List Sp) (w : World) (h : SpansAt w v ps) (hi : IntsS ps) : Calls Try.prog 62 #[.int .i64 f, v] w (RetB (.int .i64 (chkT f ps)) w) := by
  by_cases hf1 : f < 2
  · have HR : Hid (chkT f ps = 1) := if_pos (.inl hf1)
    obtain ⟨A, c, rfl, _⟩ := h
    go_enter Try.func62, Try.ntmps62
    go_wp2
    go_ret
    exact ⟨by rw [HR.out]; rfl, Below.refl _ _⟩
  · by_cases hf2 : 64 < f
    · have HR : Hid (chkT f ps = 1) := if_pos (.inr hf2)
      obtain ⟨A, c, rfl, _⟩ := h
      go_enter Try.func62, Try.ntmps62
      go_wp2
      go_ret
      exact ⟨by rw [HR.out]; rfl, Below.refl _ _⟩
    · obtain ⟨R, hR⟩ : ∃ R, chkT f ps = R := ⟨_, rfl⟩
      have HR : Hid (chkL f [] ps = R) := by rw [← hR]; exact (if_neg (by omega)).symm
      rw [hR]
      obtain ⟨A, c, rfl, hc1, hlen, hc2, hat⟩ := h
      have HAT := Lib.hid hat
      have HI := Lib.hid hi
      have HIS := Lib.hid (fun u W => is_any u W)
      generalize hn : ps.length = n at *
      have HN := Lib.hid hn
      clear hat hn hR hi
      go_enter Try.func62, Try.ntmps62
      go_wp2_with fail
      go_loopg [5, 6] n (fun gg s5 _ wr => ChkRel n f ps R w gg s5 wr)
      case atStart => exact ⟨0, Nat.zero_le _, by omega, rfl, Below.refl _ _, HR.out⟩
      case round =>
        obtain ⟨i, hin, hgg, rfl, hbw, hchk⟩ := hrel
        have HG := Lib.hid hgg
        have HB := Lib.hid hbw
        have HK := Lib.hid hchk
        have hsz := hbw.size
        clear hgg hbw hchk
        by_cases hlt : i < n
        · have hltz : (i : Int) < (n : Int) := by omega
          obtain ⟨b, off, hA, hbl, hcell⟩ := HAT.out (by omega)
          subst hA
          obtain ⟨y, hy⟩ := ex_at (xs := ps) (k := i) (by rw [HN.out]; exact hlt)
          obtain ⟨c1, c2⟩ := (hcell i y hy).keep HB.out hbl
          have HCELL := Lib.hid hcell
          have HY := Lib.hid hy
          have his := fun W => HIS.out y.1 W
          cases hu : isU y.1
          · have HU : Hid (∀ W, Calls Try.prog 41 #[.int .i64 y.1] W (Ret (.bool false) W)) := by
              intro W; have := his W; rw [hu] at this; exact this
            have HRN : Hid (R = 20) := by
              have e := chkE_id (f := f) (b := ps.take i) hu
              exact (chk_bad hy (by rw [e]; decide) HK.out).trans e
            obtain ⟨y1, y2⟩ := y
            simp only at c1 c2 HU
            clear hcell hy his hu
            go_wp2_with (go_at_call 41; refine (HU.out _).mono ?_; rintro e w' ⟨rfl, rfl⟩)
            go_ret
            exact ⟨by rw [HRN.out]; rfl, HB.out⟩
          · have HU : Hid (∀ W, Calls Try.prog 41 #[.int .i64 y.1] W (Ret (.bool true) W)) := by
              intro W; have := his W; rw [hu] at this; exact this
            by_cases hs1 : y.2 < 1
            · have HRN : Hid (R = 21) := by
                have e := chkE_share (f := f) (b := ps.take i) hu (.inl hs1)
                exact (chk_bad hy (by rw [e]; decide) HK.out).trans e
              obtain ⟨y1, y2⟩ := y
              simp only at c1 c2 HU hs1
              clear hcell hy his hu
              go_wp2_with (go_at_call 41; refine (HU.out _).mono ?_; rintro e w' ⟨rfl, rfl⟩)
              go_ret
              exact ⟨by rw [HRN.out]; rfl, HB.out⟩
            · by_cases hs2 : f < y.2
              · have HRN : Hid (R = 21) := by
                  have e := chkE_share (f := f) (b := ps.take i) hu (.inr hs2)
                  exact (chk_bad hy (by rw [e]; decide) HK.out).trans e
                obtain ⟨y1, y2⟩ := y
                simp only at c1 c2 HU hs1 hs2
                clear hcell hy his hu
                go_wp2_with (go_at_call 41; refine (HU.out _).mono ?_; rintro e w' ⟨rfl, rfl⟩)
                go_ret
                exact ⟨by rw [HRN.out]; rfl, HB.out⟩
              · have HOK : Hid ((∀ (j : Nat) (s : Sp), j < i → ps[j]? = some s → s.1 ≠ y.1) → chkL f (ps.take (i + 1)) (ps.drop (i + 1)) = R) := fun hall =>
                  chk_ok hy (chkE_ok hu hs1 hs2 (any_unit fun j s hj => by
                    rw [List.getElem?_take] at hj
                    split at hj
                    · exact hall j s (by assumption) hj
                    · cases hj)) HK.out
                have HBAD : Hid (∀ (j : Nat) (s : Sp), j < i → ps[j]? = some s → s.1 = y.1 → R = 11) := fun j s hj hs he => by
                  have e := chkE_two (f := f) (b := ps.take i) hu hs1 hs2 (any_unit_yes (j := j) (s := s) (by rw [List.getElem?_take, if_pos hj]; exact hs) he)
                  exact (chk_bad hy (by rw [e]; decide) HK.out).trans e
                obtain ⟨y1, y2⟩ := y
                simp only at c1 c2 HU hs1 hs2
                clear hcell hy his hu c1 c2
                obtain ⟨c1, c2⟩ := (HCELL.out i (y1, y2) HY.out).keep HB.out hbl
                simp only at c1 c2
                go_wp2_with (go_at_call 41; refine (HU.out _).mono ?_; rintro e w' ⟨rfl, rfl⟩)
                clear c1 c2
                go_loopg [6] i (fun gg s6 wq => ∃ k : Nat, k ≤ i ∧ gg = i - k ∧ s6 = .int .i64 k ∧ Below w.heap.size w wq ∧ ∀ (j : Nat) (s : Sp), j < k → ps[j]? = some s → s.1 ≠ y1)
                case atStart => exact ⟨0, Nat.zero_le _, by omega, rfl, HB.out, fun j s hj => absurd hj (Nat.not_lt_zero _)⟩
                case round =>
                  obtain ⟨k, hki, hgk, rfl, hbk, hall⟩ := hrel
                  have HGK := Lib.hid hgk
                  have HBK := Lib.hid hbk
                  have HALL := Lib.hid hall
                  clear hgk hbk hall
                  obtain ⟨c1, c2⟩ := (HCELL.out i (y1, y2) HY.out).keep HBK.out hbl
                  simp only at c1 c2
                  by_cases hk : k < i
                  · have hkz : (k : Int) < (i : Int) := by omega
                    have hkn : (k : Int) < (n : Int) := by omega
                    obtain ⟨z, hz⟩ := ex_at (xs := ps) (k := k) (by rw [HN.out]; omega)
                    obtain ⟨d1, d2⟩ := (HCELL.out k z hz).keep HBK.out hbl
                    by_cases he : z.1 = y1
                    · have HRN := Lib.hid (HBAD.out k z hk hz he)
                      obtain ⟨z1, z2⟩ := z
                      simp only at d1 d2 he
                      have hq : (z1 == y1) = true := by simpa using he
                      clear hz he
                      go_wp2_with fail
                      go_quiet (fail)
                      go_wp2
                      go_ret
                      exact ⟨by rw [HRN.out]; rfl, below_drewN HBK.out _⟩
                    · have HALL2 : Hid (∀ (j : Nat) (s : Sp), j < k + 1 → ps[j]? = some s → s.1 ≠ y1) := fun j s hj hs => by
                        by_cases e : j = k
                        · subst e
                          rw [hz] at hs
                          cases hs
                          exact he
                        · exact HALL.out j s (by omega) hs
                      obtain ⟨z1, z2⟩ := z
                      simp only at d1 d2 he
                      have hq : (z1 == y1) = false := by simpa using he
                      clear hz he
                      go_wp2_with fail
                      go_quiet (fail)
                      go_wp2_with fail
                      go_roundg (i - (k + 1))
                      case measure => have := HGK.out; omega
                      case rel => exact ⟨k + 1, by omega, rfl, by go_num, below_drewN HBK.out _, HALL2.out⟩
                  · have hke : k = i := by omega
                    subst hke
                    have hkz : ¬ (k : Int) < (k : Int) := by omega
                    have HT2 := Lib.hid (HOK.out HALL.out)
                    go_wp2_with fail
                    go_roundg (n - (k + 1))
                    case measure => have := HG.out; omega
                    case rel => exact ⟨k + 1, by omega, rfl, by go_num, HBK.out, HT2.out⟩
        · have hin' : i = n := by omega
          subst hin'
          have hltz : ¬ (i : Int) < (i : Int) := by omega
          have HRN : Hid (R = 0) := by
            have := HK.out
            rw [List.drop_eq_nil_of_le (by rw [HN.out]; exact Nat.le_refl _)] at this
            exact this.symm
          go_wp2
          go_ret
          exact ⟨by rw [HRN.out]; rfl, HB.out⟩
end Go.Proofs.Ytkgkanmccaodfaa
