/-
  A law on regions whose order is open: a load may be taken first where every operation that could come before it leaves the loaded cells as they are, though a store that waits for all loads writes them.
  Conditions: those of each law. The condition S is shown anew behind the operations that N names, not behind the others.
-/
import Derived.Test.YtajgebcaobknoaaM12
import Derived.Test.YtajgebcaobknoaaM02
import Derived.Laws.Rows
import Derived.Test.YtajgebcaobknoaaM14
import Derived.Test.YtajgebcaobknoaaM16
import Derived.Test.YtajgebcaobknoaaM07
import Derived.OrdersHeld
import Derived.WalkKit
import Derived.Deep.RegionHeld

/-
  A right plan is a light one; a plan's own block is none of its places'; three results, the first in a block.
  Conditions: none.
-/
set_option linter.unusedVariables false
namespace Go.Proofs.Ytajgebcaobknoaa
open Go.RowKit

theorem Right.light {f : Int} {m : Nat} {l : List Pl} (h : Right f m l) (hw : WideL l) : LightL l := by
  refine ⟨?_, hw.ok⟩
  have h1 : (l.map fun y => idxU y.u).length ≤ 240 := by
    refine nodup_lt 240 _ ?_ ?_
    · rw [List.Nodup, List.pairwise_iff_getElem]
      intro i j hi hj hij he
      rw [List.length_map] at hi hj
      rw [List.getElem_map, List.getElem_map] at he
      obtain ⟨d, rfl⟩ : ∃ d, j = i + d + 1 := ⟨j - i - 1, by omega⟩
      have h2 := h.rises d i _ _ (List.getElem?_eq_getElem hi) (List.getElem?_eq_getElem hj)
      have h3 := idxU_inj (h.place _ (List.getElem_mem hi)).unit (h.place _ (List.getElem_mem hj)).unit he
      omega
    · intro x hx
      obtain ⟨y, hy, rfl⟩ := List.mem_map.1 hx
      exact idxU_lt (h.place y hy).unit
  rw [List.length_map] at h1
  omega

/-! ### A plan's own block is none of its places' -/
theorem pn_cell {W : World} {R : Nat} {f : Int} {M : Nat} {v : Value} {T : TypeId} (h : W.heap[R]? = some (.cells #[.int .i64 f, .int .u32 (M : Int), v] T (0, 0))) (o : Nat) :
    W.cell? ⟨R, o, none⟩ = (#[.int .i64 f, .int .u32 (M : Int), v] : Array Value)[o]? := by
  simp [World.cell?, h]
theorem pcs_not {F : Nat → Prop} {W : World} {R : Nat} {f : Int} {M : Nat} {v u : Value} {T : TypeId} (h : W.heap[R]? = some (.cells #[.int .i64 f, .int .u32 (M : Int), v] T (0, 0))) {ps : List Pc} (hp : PcsIn F W u ps) : PcsIn (fun b => F b ∧ b ≠ R) W u ps := by
  obtain ⟨A, c, e, h1, h2, h3⟩ := hp
  refine ⟨A, c, e, h1, h2, fun hn => ?_⟩
  obtain ⟨b, off, e2, hb, hF, hc⟩ := h3 hn
  refine ⟨b, off, e2, hb, ⟨hF, ?_⟩, hc⟩
  rintro rfl
  obtain ⟨y, hy⟩ := exP_at (xs := ps) (k := 0) hn
  obtain ⟨g0, g1⟩ := hc 0 y hy
  rw [pn_cell h] at g0 g1
  rcases off with _ | _ | _ | off <;> simp at g0 g1
theorem pls_not {F : Nat → Prop} {W : World} {R : Nat} {f : Int} {M : Nat} {v u : Value} {T : TypeId} (h : W.heap[R]? = some (.cells #[.int .i64 f, .int .u32 (M : Int), v] T (0, 0))) {l : List Pl} (hp : PlsIn F W u l) : PlsIn (fun b => F b ∧ b ≠ R) W u l := by
  obtain ⟨ls, rfl, A, c, e, h1, h2, h3, h4⟩ := hp
  refine ⟨ls, rfl, A, c, e, h1, h2, fun hn => ?_, fun p hp => pcs_not h (h4 p hp)⟩
  obtain ⟨b, off, e2, hb, hF, hc⟩ := h3 hn
  refine ⟨b, off, e2, hb, ⟨hF, ?_⟩, hc⟩
  rintro rfl
  obtain ⟨y, hy⟩ := exP_at (xs := ls) (k := 0) hn
  obtain ⟨g0, g1, _⟩ := hc 0 y hy
  rw [pn_cell h] at g0 g1
  rcases off with _ | _ | _ | off <;> simp at g0 g1

theorem results_row_tmp2 {P : Program} {fn : Func} {p u v : Tmp} {ty : TypeId} (h : fn.results = #[.cell p ty, .tmp u, .tmp v]) (tmps : Array Value) (w : World) (g : Nat) (t : TypeId) (cs : Array Value) (fr : Nat × Nat) (d : TypeDesc)
    (hp : tmps.getD p undef = .pointer (some ⟨g, 0, none⟩)) (hg : w.heap[g]? = some (.cells cs t fr))
    (hu : P.underlying ty = some d) (hd : (match d with | .struct _ | .array _ _ => true | _ => false) = true) (hi : (P.info? ty).map (·.size) = some cs.size) (x y : Value) (hx : tmps.getD u undef = x) (hy : tmps.getD v undef = y) :
    (results fn tmps).run P w = .ok (.tuple #[.agg cs, x, y]) w := by
  have e : (results fn tmps).run P w = ((asAddr (tmps.getD p undef)).run P w).andThen fun a w₁ => ((loadVar ty a).run P w₁).andThen fun v' w₂ => .ok (.tuple #[v', tmps.getD u undef, tmps.getD v undef]) w₂ := by
    simp only [results, h]
    simp [Sem.run_bind, Result.andThen]
  rw [e, hp, hx, hy]
  simp [asAddr, run_loadVar_row w g t ty cs fr d hg hu hd hi, Result.andThen]
end Go.Proofs.Ytajgebcaobknoaa

/-
  What is left of the rooms, in memory; Rooms of the program.
  Conditions: the slice reads as places; the numbers are of their kinds.
-/
set_option linter.unusedVariables false
set_option linter.unusedSimpArgs false
namespace Go.Proofs.Ytajgebcaobknoaa
open Go.RowKit

/-- Block R is sixteen numbers. -/
abbrev RowI (W : World) (R : Nat) (g : Nat → Int) : Prop := W.heap[R]? = some (.cells (arrI g) 3 (0, 0))
theorem RowI.cell {W : World} {N : Nat} {g : Nat → Int} (h : RowI W N g) {i : Nat} (hi : i < 16) : W.cell? ⟨N, i, none⟩ = some (.int .i64 (g i)) := by rw [cell_of_row W N i _ _ _ h, arrI_get _ hi]
theorem RowI.frozen {W : World} {N : Nat} {g : Nat → Int} (h : RowI W N g) (j : Nat) : W.frozen? ⟨N, j, none⟩ = false := by
  have e : W.heap[N]? = some (.cells (arrI g) 3 (0, 0)) := h
  simp [World.frozen?, e]
theorem RowI.set {W : World} {N : Nat} {g : Nat → Int} (h : RowI W N g) (j : Nat) (x : Int) : RowI (W.setCell ⟨N, j, none⟩ (.int .i64 x)) N fun i => if i = j then x else g i := by
  have := heap_setCell_mem W N j _ _ _ (.int .i64 x) h
  rwa [arrI_set] at this
theorem RowI.congr {W : World} {N : Nat} {g g' : Nat → Int} (h : RowI W N g) (e : ∀ i, i < 16 → g i = g' i) : RowI W N g' := by
  show _ = some (Obj.cells (arrI g') _ _)
  rw [← arrI_congr e]
  exact h
theorem heap_other (W : World) {b k o : Nat} (u : Value) (h : k ≠ b) : (W.setCell ⟨b, o, none⟩ u).heap[k]? = W.heap[k]? := Below.heap_setCell _ _ _ _ h

/-- The rooms so far: those of the first k cores. -/
def rmA (f : Int) (m : Nat) (l : List Pl) (k i : Nat) : Int := if i < k then roomN f m l (i : Int) else 0
theorem rmA_zero (f : Int) (m : Nat) (l : List Pl) : rmA f m l 0 = fun _ => 0 := by
  funext i
  exact if_neg (Nat.not_lt_zero _)
theorem rmA_succ (f : Int) (m : Nat) (l : List Pl) (k : Nat) : (fun i => if i = k then roomN f m l (k : Int) else rmA f m l k i) = rmA f m l (k + 1) := by
  funext i
  unfold rmA
  by_cases h : i = k
  · subst h; rw [if_pos rfl, if_pos (by omega)]
  · rw [if_neg h]
    by_cases h2 : i < k
    · rw [if_pos h2, if_pos (by omega)]
    · rw [if_neg h2, if_neg (by omega)]
/-- What Rooms answers. -/
def RetRooms (f : Int) (m : Nat) (l : List Pl) (w : World) (e : Ending) (w' : World) : Prop := Below w.heap.size w w' ∧
  ((Right f m l ∧ ∃ R, e = .returned (.slice (some ⟨R, 0, none⟩) 16 16) ∧ w.heap.size ≤ R ∧ RowI w' R fun i => roomN f m l (i : Int)) ∨ (¬ Right f m l ∧ e = .returned (.slice none 0 0)))

set_option maxRecDepth 100000 in
set_option maxHeartbeats 4000000 in
theorem chRooms_any (f : Int) (m : Nat) (v : Value) (l : List Pl) (w : World) (h : PlsAt w v l) (hL : LightL l) (hm : m < 4294967296) :
    Calls Try.prog 8 #[planA f m v] w (RetRooms f m l w) := by
  have HPC := Lib.hid (fun w h => planCheck_any f m v l w h hL.wide hm)
  have HRM := Lib.hid (fun (hr : Right f m l) c w h => room_any f m v l c w h hL (shares_of hr.place hr.f64) hm (by have := hr.f2; omega) hr.f64)
  have HH := Lib.hid h
  unfold planA at HPC HRM
  obtain ⟨w1, P, hw1, hP, hPl, hb1, hbox⟩ := box_any w #[.int .i64 f, .int .u32 m, v] 25
  have HB1 := Lib.hid hb1
  have HBOX := Lib.hid hbox
  obtain ⟨r0, r1, r2⟩ := three_heads hbox
  clear h hL hm hb1 hbox
  unfold planA
  go_enter Try.func8, Try.ntmps8
  go_wp2_with fail
  refine (HPC.out _ (HH.out.keep HB1.out)).mono ?_
  rintro e w2 ⟨E1, rfl, hE1, hiff, hb2⟩
  have HB2 := Lib.hid (HB1.out.trans (hb2.mono HB1.out.size))
  have HBX2 := Lib.hid (keep_block HBOX.out hb2)
  clear hb2 r0 r1 r2 hw1 hP
  rcases hE1 with rfl | rfl
  · have HR := Lib.hid (hiff.1 rfl)
    have HRM2 := Lib.hid (HRM.out HR.out)
    obtain ⟨r0, r1, r2⟩ := three_heads HBX2.out
    obtain ⟨w3, R, hw3, hR, hRl, hb3, hrb⟩ := box_any w2 (arrI fun _ => 0) 3
    have hmk : (Instr.makeSlice 29 (.int .i64 16) (.int .i64 16)).run Try.prog w2 = .ok (.slice (some ⟨R, 0, none⟩) 16 16) w3 := by
      have h := mk_ints w2 16 (by omega)
      rw [show rowOf (zeros 16) = arrI fun _ => 0 from rfl, hw3, hR] at h
      exact h
    have HB3 := Lib.hid (HB2.out.trans (hb3.mono HB2.out.size))
    have HBX3 := Lib.hid (keep_block HBX2.out hb3)
    have HR3 : Hid (RowI w3 R (rmA f m l 0)) := Lib.hid (by rw [rmA_zero]; exact hrb)
    have HRL := Lib.hid (show w.heap.size ≤ R ∧ P < R by have := HB2.out.size; have := heap_lt HBX2.out; omega)
    clear hiff hw3 hR hb3 hrb
    go_wp2_with fail
    clear r0 r1 r2 hmk
    go_loopg [4, 11] 16 (fun gg _ s11 wr => ∃ k : Nat, k ≤ 16 ∧ gg = 16 - k ∧ s11 = .int .i64 k ∧ Apart (fun b => b = R) w3 wr ∧ RowI wr R (rmA f m l k))
    case atStart => exact ⟨0, Nat.zero_le _, rfl, rfl, Apart.refl _ _, HR3.out⟩
    case round =>
      obtain ⟨k, hk, hg, rfl, hat, hrow⟩ := hrel
      have HG := Lib.hid hg
      have HAT := Lib.hid hat
      have HROW := Lib.hid hrow
      have hne : ¬ P = R := by have := HRL.out; omega
      have HXR := Lib.hid ((hat.block P (heap_lt HBX3.out) hne).trans HBX3.out)
      obtain ⟨r0, r1, r2⟩ := three_heads HXR.out
      have HBR := Lib.hid (HB3.out.trans (hat.below HB3.out.size fun b hb e => by have := HRL.out; omega))
      clear hat hrow hg
      by_cases hlt : k < 16
      · have hltz : (k : Int) < 16 := by omega
        have hk0 : (0 : Int) ≤ (k : Int) := by omega
        go_wp2_with fail
        refine (HRM2.out (k : Int) _ (HH.out.keep HBR.out)).mono ?_
        rintro e w4 ⟨rfl, hb4⟩
        have HAT4 := Lib.hid (HAT.out.trans (Apart.of_below (F := fun b => b = R) hb4) fun _ _ e => e)
        have HROW4 : Hid (RowI w4 R (rmA f m l k)) := keep_block HROW.out hb4
        have t0 := HROW4.out.cell hlt
        have t1 := HROW4.out.frozen k
        clear hb4 r0 r1 r2
        go_wp2_with fail
        go_roundg (16 - (k + 1))
        case measure => have := HG.out; omega
        case rel =>
          refine ⟨k + 1, by omega, rfl, by go_num, HAT4.out.set (p := ⟨R, k, none⟩) (.inl rfl) _, ?_⟩
          have h1 := RowI.set HROW4.out k (roomN f m l (k : Int))
          rw [rmA_succ] at h1
          exact h1
      · have hk16 : k = 16 := by omega
        subst hk16
        go_wp2_with fail
        go_ret
        exact ⟨HBR.out, .inl ⟨HR.out, R, rfl, HRL.out.1, HROW.out.congr fun i hi => if_pos hi⟩⟩
  · go_wp2_with fail
    go_ret
    exact ⟨HB2.out, .inr ⟨fun h => by have := hiff.2 h; omega, rfl⟩⟩
end Go.Proofs.Ytajgebcaobknoaa

/-
  The next core that has room; as many ticks as it gives: of the program.
  Conditions: some core from the current one on has room.
-/
set_option linter.unusedVariables false
set_option linter.unusedSimpArgs false
namespace Go.Proofs.Ytajgebcaobknoaa
open Go.RowKit

/-- What is left of the rooms, the current core and tick: a struct in block C, the rooms in block R. -/
structure ChAt (W : World) (C R : Nat) (f : Int) (g : Nat → Int) (core tick : Nat) : Prop where
  box : W.heap[C]? = some (.cells #[.int .i64 f, .slice (some ⟨R, 0, none⟩) 16 16, .int .i64 core, .int .i64 tick] 55 (0, 0))
  row : RowI W R g
  ne : R ≠ C
theorem ChAt.keep {W W' : World} {C R : Nat} {f : Int} {g : Nat → Int} {core tick : Nat} (h : ChAt W C R f g core tick) (hb : Below W.heap.size W W') : ChAt W' C R f g core tick :=
  ⟨keep_block h.box hb, keep_block h.row hb, h.ne⟩
theorem ChAt.drewN {W : World} {C R : Nat} {f : Int} {g : Nat → Int} {core tick : Nat} (h : ChAt W C R f g core tick) (n : Nat) : ChAt (W.drewN n) C R f g core tick := ⟨h.box, h.row, h.ne⟩
theorem ChAt.drew {W : World} {C R : Nat} {f : Int} {g : Nat → Int} {core tick : Nat} (h : ChAt W C R f g core tick) : ChAt W.drew C R f g core tick := ⟨h.box, h.row, h.ne⟩
theorem ChAt.heads {W : World} {C R : Nat} {f : Int} {g : Nat → Int} {core tick : Nat} (h : ChAt W C R f g core tick) :
    W.cell? ⟨C, 0, none⟩ = some (.int .i64 f) ∧ W.cell? ⟨C, 1, none⟩ = some (.slice (some ⟨R, 0, none⟩) 16 16) ∧ W.cell? ⟨C, 2, none⟩ = some (.int .i64 core) ∧ W.cell? ⟨C, 3, none⟩ = some (.int .i64 tick) ∧ W.frozen? ⟨C, 2, none⟩ = false ∧ W.frozen? ⟨C, 3, none⟩ = false := by
  have e := h.box
  refine ⟨?_, ?_, ?_, ?_, ?_, ?_⟩ <;> simp [World.cell?, World.frozen?, e]
theorem ChAt.setCore {W : World} {C R : Nat} {f : Int} {g : Nat → Int} {core tick : Nat} (h : ChAt W C R f g core tick) (c : Nat) : ChAt (W.setCell ⟨C, 2, none⟩ (.int .i64 c)) C R f g c tick :=
  ⟨heap_setCell_mem W C 2 _ _ _ _ h.box, (heap_other W _ h.ne).trans h.row, h.ne⟩
theorem ChAt.setTick {W : World} {C R : Nat} {f : Int} {g : Nat → Int} {core tick : Nat} (h : ChAt W C R f g core tick) (t : Nat) : ChAt (W.setCell ⟨C, 3, none⟩ (.int .i64 t)) C R f g core t :=
  ⟨heap_setCell_mem W C 3 _ _ _ _ h.box, (heap_other W _ h.ne).trans h.row, h.ne⟩
theorem ChAt.setRoom {W : World} {C R : Nat} {f : Int} {g : Nat → Int} {core tick : Nat} (h : ChAt W C R f g core tick) (j : Nat) (x : Int) : ChAt (W.setCell ⟨R, j, none⟩ (.int .i64 x)) C R f (fun i => if i = j then x else g i) core tick :=
  ⟨(heap_other W _ (Ne.symm h.ne)).trans h.box, RowI.set h.row j x, h.ne⟩
theorem ChAt.congr {W : World} {C R : Nat} {f : Int} {g g' : Nat → Int} {core tick : Nat} (h : ChAt W C R f g core tick) (e : ∀ i, i < 16 → g i = g' i) : ChAt W C R f g' core tick := ⟨h.box, h.row.congr e, h.ne⟩
theorem ChAt.apart {W W' : World} {F : Nat → Prop} {C R : Nat} {f : Int} {g : Nat → Int} {core tick : Nat} (h : ChAt W C R f g core tick) (ha : Apart F W W') (hC : ¬ F C) (hR : ¬ F R) : ChAt W' C R f g core tick :=
  ⟨(ha.block C (heap_lt h.box) hC).trans h.box, (ha.block R (heap_lt h.row) hR).trans h.row, h.ne⟩
/-- What a call that changes it leaves. -/
def ChPost (C R : Nat) (f : Int) (v : Value) (g : Nat → Int) (core tick : Nat) (W : World) (e : Ending) (w' : World) : Prop := e = .returned v ∧ ChAt w' C R f g core tick ∧ Apart (fun k => k = C ∨ k = R) W w'

set_option maxRecDepth 100000 in
set_option maxHeartbeats 4000000 in
theorem skip_any (W : World) (C R : Nat) (f : Int) (g : Nat → Int) (core tick c1 : Nat) (h : ChAt W C R f g core tick) (h1 : core ≤ c1) (h2 : c1 < 16) (h3 : g c1 ≠ 0) (h4 : ∀ i, core ≤ i → i < c1 → g i = 0) :
    Calls Try.prog 57 #[.pointer (some ⟨C, 0, none⟩)] W (ChPost C R f (.tuple #[]) g c1 tick W) := by
  have HC := Lib.hid h
  have H3 := Lib.hid h3
  have H4 := Lib.hid h4
  clear h h3 h4
  go_enter Try.func57, Try.ntmps57
  go_wp2_with fail
  go_loopg [] (c1 - core) (fun gg wr => ∃ k : Nat, core ≤ k ∧ k ≤ c1 ∧ gg = c1 - k ∧ ChAt wr C R f g k tick ∧ Apart (fun b => b = C ∨ b = R) W wr)
  case atStart => exact ⟨core, Nat.le_refl _, h1, rfl, HC.out, Apart.refl _ _⟩
  case round =>
    obtain ⟨k, hk0, hk1, hg, hc, ha⟩ := hrel
    have HG := Lib.hid hg
    have HCK := Lib.hid hc
    have HA := Lib.hid ha
    obtain ⟨a0, a1, a2, a3, z2, z3⟩ := hc.heads
    have hk16 : k < 16 := by omega
    have a4 := hc.row.cell hk16
    have hkz : (k : Int) < 16 := by omega
    have hkz0 : (0 : Int) ≤ (k : Int) := by omega
    obtain ⟨x, hx⟩ : ∃ x, g k = x := ⟨_, rfl⟩
    rw [hx] at a4
    have HX := Lib.hid hx
    clear hc ha hg hx
    by_cases hlt : k < c1
    · have hx0 : x = 0 := by rw [← HX.out]; exact H4.out k hk0 hlt
      subst hx0
      clear HX
      go_wp2_with fail
      go_quiet (fail)
      go_wp2_with fail
      go_roundg (c1 - (k + 1))
      case measure => have := HG.out; omega
      case rel => exact ⟨k + 1, by omega, by omega, rfl, (HCK.out.drewN nq).setCore (k + 1), (HA.out.drewN nq).set (p := ⟨C, 2, none⟩) (.inl (.inl rfl)) _⟩
    · have hx0 : (x == 0) = false := by
        have := H3.out
        rw [show c1 = k by omega, HX.out] at this
        simpa using this
      go_wp2_with fail
      go_quiet (fail)
      go_wp2_with fail
      refine bodyPost_end (results_none rfl _ _ _) rfl ?_
      obtain rfl : c1 = k := by omega
      exact ⟨rfl, HCK.out.drewN nq, HA.out.drewN nq⟩

set_option maxRecDepth 100000 in
set_option maxHeartbeats 4000000 in
theorem take_any (W : World) (C R : Nat) (f : Int) (g : Nat → Int) (core tick c1 : Nat) (n : Int) (h : ChAt W C R f g core tick) (h1 : core ≤ c1) (h2 : c1 < 16) (h3 : 0 < g c1) (h4 : ∀ i, core ≤ i → i < c1 → g i = 0) (h5 : g c1 ≤ 1000) (h6 : 0 < n) (h7 : n ≤ 1000) :
    Calls Try.prog 58 #[.pointer (some ⟨C, 0, none⟩), .int .i64 n] W (ChPost C R f (.int .i64 (min n (g c1))) (fun i => if i = c1 then g c1 - min n (g c1) else g i) c1 tick W) := by
  have HSK := Lib.hid (skip_any W C R f g core tick c1 h h1 h2 (by omega) h4)
  obtain ⟨x, hx⟩ : ∃ x, g c1 = x := ⟨_, rfl⟩
  have HX := Lib.hid hx
  rw [hx] at h3 h5 ⊢
  obtain ⟨y, hy⟩ : ∃ y, min n x = y := ⟨_, rfl⟩
  have hy1 : 0 < y := by omega
  have hy2 : y ≤ x := by omega
  rw [hy]
  clear h h4 h1 hx
  go_enter Try.func58, Try.ntmps58
  go_wp2_with fail
  refine HSK.out.mono ?_
  rintro e w1 ⟨rfl, hc, ha⟩
  have HC := Lib.hid hc
  have HA := Lib.hid ha
  obtain ⟨a0, a1, a2, a3, z2, z3⟩ := hc.heads
  have a4 := hc.row.cell h2
  rw [HX.out] at a4
  have hkz : (c1 : Int) < 16 := by omega
  have hkz0 : (0 : Int) ≤ (c1 : Int) := by omega
  clear hc ha
  go_wp2_with fail
  go_quiet (fail)
  have HC2 := Lib.hid (HC.out.drewN nq)
  have HA2 := Lib.hid (HA.out.drewN nq)
  generalize w1.drewN nq = w2 at *
  clear a0 a1 a2 a3 a4 z2 z3 hy
  obtain ⟨a0, a1, a2, a3, z2, z3⟩ := HC2.out.heads
  have a4 := HC2.out.row.cell h2
  have a5 := HC2.out.row.frozen c1
  rw [HX.out] at a4
  go_wp2_with fail
  go_region
  go_wp2_with fail
  go_ret
  exact ⟨rfl, (HC2.out.setRoom c1 (x - y)).drew, (HA2.out.set (p := ⟨R, c1, none⟩) (.inl (.inr rfl)) _).drewN 1⟩
end Go.Proofs.Ytajgebcaobknoaa

/-
  Where a plan's place belongs; append of pieces onto an empty row.
  Conditions: the plan is right.
-/
set_option linter.unusedVariables false
set_option linter.unusedSimpArgs false
namespace Go.Proofs.Ytajgebcaobknoaa
open Go.RowKit

/-- A right plan without one of its places. -/
def lessT (l : List Pl) (i : Nat) : List Pl := l.take i ++ l.drop (i + 1)
theorem less_get {l : List Pl} {i : Nat} (hi : i < l.length) (j : Nat) : (lessT l i)[j]? = if j < i then l[j]? else l[j + 1]? := by
  unfold lessT
  by_cases h : j < i
  · rw [if_pos h, List.getElem?_append_left (by rw [List.length_take]; omega), List.getElem?_take_of_lt h]
  · rw [if_neg h, List.getElem?_append_right (by rw [List.length_take]; omega), List.length_take, Nat.min_eq_left (by omega), List.getElem?_drop]
    congr 1
    omega
theorem drop_less {f : Int} {m : Nat} {l : List Pl} {i : Nat} {z : Pl} (hr : Right f m l) (hi : l[i]? = some z) : dropT l z.u = lessT l i := by
  obtain ⟨hlt, _⟩ := List.getElem?_eq_some_iff.1 hi
  have e : l = l.take i ++ z :: l.drop (i + 1) := by
    obtain ⟨hk, hx'⟩ := List.getElem?_eq_some_iff.1 hi
    rw [← hx', ← List.drop_eq_getElem_cons hk, List.take_append_drop]
  have h1 : (l.take i).filter (fun x => !decide (x.u = z.u)) = l.take i := List.filter_eq_self.2 fun x hx => by
    obtain ⟨j, hj⟩ := List.mem_iff_getElem?.1 hx
    have hji : j < i := by
      have := (List.getElem?_eq_some_iff.1 hj).1
      rw [List.length_take] at this
      omega
    rw [List.getElem?_take_of_lt hji] at hj
    have := hr.rise hji hj hi
    simp
    omega
  have h2 : (l.drop (i + 1)).filter (fun x => !decide (x.u = z.u)) = l.drop (i + 1) := List.filter_eq_self.2 fun x hx => by
    obtain ⟨j, hj⟩ := List.mem_iff_getElem?.1 hx
    rw [List.getElem?_drop] at hj
    have := hr.rise (show i < i + 1 + j by omega) hi hj
    simp
    omega
  unfold dropT lessT
  conv => lhs; rw [e]
  rw [List.filter_append, List.filter_cons, h1, h2]
  simp
theorem less_put {f : Int} {m : Nat} {l : List Pl} {i : Nat} {z : Pl} (hr : Right f m l) (hi : l[i]? = some z) : PutAt (lessT l i) z.u i := by
  have hlt := (List.getElem?_eq_some_iff.1 hi).1
  refine ⟨by unfold lessT; rw [List.length_append, List.length_take]; omega, fun j y hy => ?_⟩
  rw [less_get hlt] at hy
  by_cases h : j < i
  · rw [if_pos h] at hy
    have := hr.rise h hy hi
    exact ⟨fun _ => h, fun _ => this⟩
  · rw [if_neg h] at hy
    have := hr.rise (show i < j + 1 by omega) hi hy
    exact ⟨fun e => by omega, fun e => absurd e h⟩
theorem less_drop {d : List Pl} {u : Int} {i : Nat} (h : PutAt d u i) (hn : ∀ x ∈ d, x.u ≠ u) : dropT d u = d := List.filter_eq_self.2 fun x hx => by simp [hn x hx]
theorem less_ne {f : Int} {m : Nat} {l : List Pl} {i : Nat} {z : Pl} (hr : Right f m l) (hi : l[i]? = some z) : ∀ x ∈ lessT l i, x.u ≠ z.u := fun x hx => by
  rw [← drop_less hr hi] at hx
  simpa using (List.mem_filter.1 hx).2
theorem less_back {l : List Pl} {i : Nat} {z : Pl} (hi : l[i]? = some z) : putPl (lessT l i) z i = l := by
  have hlt := (List.getElem?_eq_some_iff.1 hi).1
  have e : l = l.take i ++ z :: l.drop (i + 1) := by
    obtain ⟨hk, hx'⟩ := List.getElem?_eq_some_iff.1 hi
    rw [← hx', ← List.drop_eq_getElem_cons hk, List.take_append_drop]
  have hti : (l.take i).length = i := by rw [List.length_take]; omega
  unfold putPl lessT
  rw [List.take_append_of_le_length (by omega), List.take_of_length_le (by omega), List.drop_append_of_le_length (by omega), List.drop_of_length_le (by omega)]
  conv => rhs; rw [e]
  simp

/-- append in a region that draws, by its run. -/
theorem step_append_run16 {ops : Array Oper} {o : Oper} {a : Act} {w : World} {K : Act → World → Prop} {Q : Exit → Act → World → Prop} {E : Prop}
    (hg : o.guard = none) (d x : Operand) (dT sT : TypeId) (hop : o.op = Op.call { callee := Callee.builtin Builtin.append, args := #[d, x], argTypes := #[dT, sT] })
    (v u : Value) (hd : a.eval d = v) (hx : a.eval x = u) {v' : Value} {w' : World} (hr : (Builtin.append_ #[dT, sT] o.type #[v, u]).run Try.prog w = .ok v' w') (hK : K (a.put o.dst v') w') :
    if Region.wanted o (yielded ops a.tmps) = true then Oper.wp Try.prog o a w K Q else E := by
  have hw : Region.wanted o (yielded ops a.tmps) = true := by simp [Region.wanted, hg]
  rw [if_pos hw]
  unfold Oper.wp
  simp [execOp, hop, resolve, invoke, builtin, hd, hx, hr, Result.andThen]
  exact hK
theorem step_store_row16 {ops : Array Oper} {o : Oper} {a : Act} {w : World} {K : Act → World → Prop} {Q : Exit → Act → World → Prop} {E : Prop}
    (hg : o.guard = none) (ty : TypeId) (x y : Operand) (ho : o.op = .store ty x y)
    (g : Nat) (cells : Array Value) (hx : a.eval x = .pointer (some ⟨g, 0, none⟩)) (hy : a.eval y = .agg cells)
    (t : TypeId) (old : Array Value) (hgg : w.heap[g]? = some (.cells old t (0, 0))) (hi : (Try.prog.info? ty).map (·.size) = some cells.size)
    (hold : old.size = cells.size) (h1 : cells.all (·.oneCell') = true) (hK : K (a.put o.dst undef) (w.setRow g cells)) :
    if Region.wanted o (yielded ops a.tmps) = true then Oper.wp Try.prog o a w K Q else E := by
  have hw : Region.wanted o (yielded ops a.tmps) = true := by simp [Region.wanted, hg]
  rw [if_pos hw]
  exact wp_store_row ty x y ho g cells hx hy t old hgg hi hold h1 hK
theorem pcs_of_ownB {W : World} {base : Nat} {v : Value} {ps : List Pc} (h : W.ownsRow base 51 2 v ps.length (pcsCells ps)) : PcsIn (fun b => v.ownBlock = some b) W v ps := by
  obtain ⟨A, c, rfl, h1, h2, h3⟩ := pcs_of_own h
  refine ⟨A, c, rfl, h1, h2, fun h0 => ?_⟩
  obtain ⟨b, off, rfl, hb, _, hc⟩ := h3 h0
  exact ⟨b, off, rfl, hb, rfl, hc⟩
/-- append of pieces onto an empty row. -/
theorem app_pcs (W : World) (E : Nat) (hE : W.heap[E]? = some (.cells #[] 51 (0, 0))) (v : Value) (ps : List Pc) (h : PcsAt W v ps) (hl : ps.length ≤ 1000) :
    ∃ v' w', (Builtin.append_ #[39, 39] 39 #[.slice (some ⟨E, 0, none⟩) 0 0, v]).run Try.prog W = .ok v' w' ∧ PcsIn (fun b => b = E ∨ W.heap.size ≤ b) w' v' ps ∧ Below E W w' ∧ ∀ b, b < W.heap.size → b ≠ E → w'.heap[b]? = W.heap[b]? := by
  obtain ⟨i, hi, hz0, hz1, hz2⟩ := info_parts Try.infoPc
  obtain ⟨A, c, rfl, h1, h2, h3⟩ := h
  have hEl := heap_lt hE
  rcases A with _ | a
  · have : ps = [] := by
      rcases Nat.eq_zero_or_pos ps.length with h | h
      · exact List.eq_nil_of_length_eq_zero h
      · obtain ⟨b, off, e, _⟩ := h3 h; cases e
    subst this
    refine ⟨.slice (some ⟨E, 0, none⟩) 0 0, W, ?_, ⟨_, 0, rfl, Nat.le_refl _, by decide, fun h => absurd h (by decide)⟩, Below.refl _ _, fun _ _ _ => rfl⟩
    simp [Builtin.append_, run_underlying Try.underlying39, Builtin.lenOf, sizeOf, typeInfo, hi, hz1, Builtin.firstCells, storeCells, Result.andThen]
  · have hown : W.ownsRow E 51 2 (.slice (some ⟨E, 0, none⟩) 0 0) 0 [] := ⟨rfl, .inr ⟨E, 0, #[], rfl, Nat.le_refl _, hE, Nat.le_refl _, Nat.zero_le _, rfl, rfl⟩⟩
    obtain ⟨v', w', hr, ho, hg, _, hat⟩ := run_append_own_at (P := Try.prog) W E 39 39 51 i (.agg #[.int .i64 0, .int .u64 0]) 2 16 Try.underlying39 hi hz0 hz1 hz2 rfl (by decide) _ 0 [] hown a ps.length c (pcsCells ps) (pcsCells_length ps) (fun j u hj => by
      have hj' : j < ps.length * 2 := by rw [← pcsCells_length]; exact (List.getElem?_eq_some_iff.1 hj).1
      obtain ⟨b, off, e, hlt, _, hc⟩ := h3 (by omega)
      cases e
      rw [Addr.add_lit]
      exact pcsCells_of ps hc j u hj) (pcsCells_one ps) (by unfold maxLen; omega) (by omega) (by omega)
    rw [Nat.zero_add, List.nil_append] at ho
    refine ⟨v', w', hr, (pcs_of_ownB ho).mono fun b _ hb => ?_, below_grown5 hg (by omega) fun k hk => (by cases hk; exact Nat.le_refl _), fun b hb hne => hg.block b hb fun e => hne (by cases e; rfl)⟩
    rcases hat with hat | hat
    · rw [hat] at hb
      exact .inl (Option.some.inj hb).symm
    · rw [hat] at hb
      exact .inr (Nat.le_of_eq (Option.some.inj hb))
end Go.Proofs.Ytajgebcaobknoaa

/-
  A law on regions whose order is open: a load may be taken first where every operation that could come before it leaves the loaded cells as they are, though a store that waits for all loads writes them.
  Conditions: those of each law. The condition S is shown anew behind the operations that N names, not behind the others.
-/
namespace Go.Proofs.Ytajgebcaobknoaa
open Go

section
variable {P : Program} {ops : Array Oper} {Q : Exit → Act → World → Prop} {md : Region.Mode} {S1 S2 : World → Prop} {N : Nat → Bool}

/-- Whatever order is drawn; behind each operation the world meets S1, and an operation that N names keeps S2. -/
def wpAnyN (P : Program) (md : Region.Mode) (ops : Array Oper) (Q : Exit → Act → World → Prop) (S1 S2 : World → Prop) (N : Nat → Bool) : Nat → Array Bool → Act → World → Prop
  | 0, listed, a, w => Region.ready md ops listed = [] ∧ Q .normal a w
  | fuel + 1, listed, a, w =>
    (Region.ready md ops listed = [] → Q .normal a w) ∧
    ∀ i ∈ Region.ready md ops listed, wpOp P ops Q i (fun a' w' => (S1 w' ∧ (N i = true → S2 w → S2 w')) ∧ wpAnyN P md ops Q S1 S2 N fuel (listed.setIfInBounds i true) a' w') a w

theorem wpAny_of_N : ∀ (fuel : Nat) (listed : Array Bool) (a : Act) (w : World), wpAnyN P md ops Q S1 S2 N fuel listed a w → wpAny P md ops Q fuel listed a w
  | 0, _, _, _, h => h
  | fuel + 1, _, _, _, h => ⟨h.1, fun i hi => wpOp_mono (fun _ _ h' => wpAny_of_N fuel _ _ _ h'.2) (h.2 i hi)⟩

/-- What a taken operation may lean on: S1, and S2 where 'b2' says so. -/
def Leans (S1 S2 : World → Prop) (b2 : Bool) (w : World) : Prop := S1 w ∧ (b2 = true → S2 w)

/-- Operation i may be taken first: every other one that has not come up waits for it, or is apart from it and keeps what it leans on. -/
theorem wpAnyN_first {i : Nat} {oi : Oper} {v : Value} {b2 : Bool} (hi : ops[i]? = some oi) (hsel : ∀ (j : Nat) (o : Oper) cs b, ops[j]? = some o → o.op ≠ .select cs b)
    (hQ : ∀ c a w, Q (.panic c) (a.put oi.dst v) w → Q (.panic c) a w) :
    ∀ (fuel : Nat) (listed : Array Bool) (a : Act) (w : World),
      (∀ j oj, ops[j]? = some oj → j ≠ i → listed.getD j true = false → (∀ e ∈ oj.after, Region.binds md e = true → e.on ≠ i) → oi.apart ops oj = true ∧ (b2 = true → N j = true)) →
      i ∈ Region.ready md ops listed → YieldsIf P ops (Leans S1 S2 b2) oi v a → Leans S1 S2 b2 w →
      wpAnyN P md ops Q S1 S2 N fuel (listed.setIfInBounds i true) (a.put oi.dst v) w → wpAnyN P md ops Q S1 S2 N (fuel + 1) listed a w := by
  intro fuel
  induction fuel with
  | zero =>
    intro listed a w _ hr hy hS H
    refine ⟨fun h => (by rw [h] at hr; cases hr), fun j hj => ?_⟩
    by_cases hji : j = i
    · subst hji; exact hy.wpOp hi hS ⟨⟨hS.1, fun _ h => h⟩, H⟩
    · have := ready_mono hj hji
      rw [H.1] at this
      cases this
  | succ fuel ih =>
    intro listed a w hfree hr hy hS H
    refine ⟨fun h => (by rw [h] at hr; cases hr), fun j hj => ?_⟩
    by_cases hji : j = i
    · subst hji; exact hy.wpOp hi hS ⟨⟨hS.1, fun _ h => h⟩, H⟩
    · have h1 := H.2 j (ready_mono hj hji)
      obtain ⟨hjun, oj, hoj, hall⟩ := mem_ready.1 hj
      have hnot : ∀ e ∈ oj.after, Region.binds md e = true → e.on ≠ i := fun e he hb heq => by
        have h1 := hall e he hb
        have h0 := (mem_ready.1 hr).1
        rw [heq] at h1
        rcases Nat.lt_or_ge i listed.size with h' | h'
        · simp [h'] at h0 h1; rw [h0] at h1; cases h1
        · simp [Array.getElem?_eq_none h'] at h1
      obtain ⟨hap, hN⟩ := hfree j oj hoj hji hjun hnot
      have h2 := wpOp_putIf hoj hap (fun cs b => hsel i oi cs b hi) (fun cs b => hsel j oj cs b hoj) hQ hy h1
      have hfree' : ∀ k ok, ops[k]? = some ok → k ≠ i → (listed.setIfInBounds j true).getD k true = false →
          (∀ e ∈ ok.after, Region.binds md e = true → e.on ≠ i) → oi.apart ops ok = true ∧ (b2 = true → N k = true) := fun k ok hk hki hun hno => by
        refine hfree k ok hk hki ?_ hno
        by_cases hjk : j = k
        · subst hjk; exact hjun
        · rw [getD_set_ne true hjk] at hun; exact hun
      refine wpOp_mono (fun a' w' h3 => ⟨h3.2.1, ih (listed.setIfInBounds j true) a' w' hfree' (ready_mono hr (Ne.symm hji)) h3.1 ⟨h3.2.1.1, fun hb => h3.2.1.2 (hN hb) (hS.2 hb)⟩ ?_⟩) h2
      rw [Array.setIfInBounds_comm _ _ hji]
      exact h3.2.2

/-- The side condition as a Bool. -/
def freeOrd (md : Region.Mode) (ops : Array Oper) (N : Nat → Bool) (b2 : Bool) (listed : Array Bool) (i : Nat) : Bool :=
  match ops[i]? with
  | none => false
  | some oi => (List.range ops.size).all fun j => j == i || listed.getD j true || match ops[j]? with
      | some oj => oj.after.any (fun e => Region.binds md e && e.on == i) || (oi.apart ops oj && (!b2 || N j))
      | none => true

theorem freeOrd_spec {i : Nat} {oi : Oper} {b2 : Bool} {listed : Array Bool} (hi : ops[i]? = some oi) (h : freeOrd md ops N b2 listed i = true) (j : Nat) (oj : Oper)
    (hj : ops[j]? = some oj) (hne : j ≠ i) (hun : listed.getD j true = false) (hno : ∀ e ∈ oj.after, Region.binds md e = true → e.on ≠ i) :
    oi.apart ops oj = true ∧ (b2 = true → N j = true) := by
  simp only [freeOrd, hi, List.all_eq_true, List.mem_range] at h
  have h1 := h j (Array.getElem?_eq_some_iff.1 hj).1
  simp only [hj, Bool.or_eq_true, beq_iff_eq, hne, false_or, hun, Bool.false_eq_true, Bool.and_eq_true] at h1
  rcases h1 with h1 | h1
  · obtain ⟨e, he, hb⟩ := Array.any_eq_true'.1 h1
    simp only [Bool.and_eq_true, beq_iff_eq] at hb
    exact absurd hb.2 (hno e he hb.1)
  · refine ⟨h1.1, fun hb => ?_⟩
    rcases h1.2 with h2 | h2
    · rw [hb] at h2; cases h2
    · exact h2

theorem wpAnyN_take {i : Nat} {oi : Oper} {v : Value} {fuel : Nat} {listed : Array Bool} {a : Act} {w : World} (b2 : Bool) (hi : ops[i]? = some oi)
    (hs : Region.noSelect ops = true) (hf : freeOrd md ops N b2 listed i = true) (hr : (Region.ready md ops listed).contains i = true)
    (hQ : ∀ c a w, Q (.panic c) (a.put oi.dst v) w → Q (.panic c) a w) (hy : YieldsIf P ops (Leans S1 S2 b2) oi v a) (hS : Leans S1 S2 b2 w)
    (h : wpAnyN P md ops Q S1 S2 N fuel (listed.setIfInBounds i true) (a.put oi.dst v) w) : wpAnyN P md ops Q S1 S2 N (fuel + 1) listed a w :=
  wpAnyN_first hi (Region.noSelect_spec hs) hQ fuel listed a w (freeOrd_spec hi hf) (by simpa using hr) hy hS h

/-- One alone may come up. -/
theorem wpAnyN_step {i : Nat} {o : Oper} {fuel : Nat} {listed : Array Bool} {a : Act} {w : World} (hr : Region.ready md ops listed = [i]) (ho : ops[i]? = some o) (hw : Region.wanted o (yielded ops a.tmps) = true)
    (h : ∀ K' : Act → World → Prop, Shut (∀ a w', S1 w' → (N i = true → S2 w → S2 w') → wpAnyN P md ops Q S1 S2 N fuel (listed.setIfInBounds i true) a w' → K' a w') → Oper.wp P o a w K' Q) :
    wpAnyN P md ops Q S1 S2 N (fuel + 1) listed a w :=
  ⟨fun h0 => absurd (hr.symm.trans h0) (by intro e; cases e), fun j hj => by
    rw [hr] at hj
    obtain rfl := List.mem_singleton.1 hj
    exact wpOp_step ho (fun K' hK => by
      rw [if_pos hw]
      exact h K' (fun a w h1 h2 hW => hK a w ⟨⟨h1, h2⟩, hW⟩))⟩

theorem wpAnyN_done {listed : Array Bool} {a : Act} {w : World} (hr : Region.ready md ops listed = []) (h : Q .normal a w) : wpAnyN P md ops Q S1 S2 N 0 listed a w := ⟨hr, h⟩

/-- Two may come up. -/
theorem wpAnyN_two {i j : Nat} {oi oj : Oper} {fuel : Nat} {listed : Array Bool} {a : Act} {w : World} (hr : Region.ready md ops listed = [i, j]) (hi : ops[i]? = some oi) (hj : ops[j]? = some oj)
    (wi : Region.wanted oi (yielded ops a.tmps) = true) (wj : Region.wanted oj (yielded ops a.tmps) = true)
    (h1 : ∀ K' : Act → World → Prop, Shut (∀ a w', S1 w' → (N i = true → S2 w → S2 w') → wpAnyN P md ops Q S1 S2 N fuel (listed.setIfInBounds i true) a w' → K' a w') → Oper.wp P oi a w K' Q)
    (h2 : ∀ K' : Act → World → Prop, Shut (∀ a w', S1 w' → (N j = true → S2 w → S2 w') → wpAnyN P md ops Q S1 S2 N fuel (listed.setIfInBounds j true) a w' → K' a w') → Oper.wp P oj a w K' Q) :
    wpAnyN P md ops Q S1 S2 N (fuel + 1) listed a w :=
  ⟨fun h0 => absurd (hr.symm.trans h0) (by intro e; cases e), fun k hk => by
    rw [hr] at hk
    rcases List.mem_cons.1 hk with rfl | hk
    · exact wpOp_step hi (fun K' hK => by
        rw [if_pos wi]
        exact h1 K' (fun a w h1 h2 hW => hK a w ⟨⟨h1, h2⟩, hW⟩))
    · obtain rfl := List.mem_singleton.1 hk
      exact wpOp_step hj (fun K' hK => by
        rw [if_pos wj]
        exact h2 K' (fun a w h1 h2 hW => hK a w ⟨⟨h1, h2⟩, hW⟩))⟩

theorem wpOp_mono' {i : Nat} {K K' : Act → World → Prop} {a : Act} {w : World} (h : ∀ a w, K a w → K' a w) (hw : wpOp P ops Q i K a w) : wpOp P ops Q i K' a w := wpOp_mono h hw
/-- What is kept may be asked for more sharply from here on. -/
theorem wpAnyN_sharp {S1' : World → Prop} (h : ∀ w, S1' w → S1 w) : ∀ (fuel : Nat) (listed : Array Bool) (a : Act) (w : World), wpAnyN P md ops Q S1' S2 N fuel listed a w → wpAnyN P md ops Q S1 S2 N fuel listed a w
  | 0, _, _, _, hw => hw
  | fuel + 1, _, _, _, hw => ⟨hw.1, fun i hi => wpOp_mono (fun _ _ h' => ⟨⟨h _ h'.1.1, h'.1.2⟩, wpAnyN_sharp h fuel _ _ _ h'.2⟩) (hw.2 i hi)⟩

theorem wp_region_N {id : Nat} {a : Act} {w : World} (hm : P.follows .mixedOrders = true)
    (h : wpAnyN P .any ops Q S1 S2 N ops.size (Array.replicate ops.size false) a w.drew) : (Code.region id ops true).wp P Q a w :=
  wp_region_any hm (wpAny_of_N _ _ _ _ h)
end
end Go.Proofs.Ytajgebcaobknoaa
