/-
  When it is sure that nobody is left over, of the program.
  Conditions: the slice reads as wants; the numbers are ints.
-/
import Derived.Shelf.SlGeneric
import Derived.Shelf.SlSortCmp.WholeK
import Derived.Ground.SlsfProg
import Derived.Test.YtiadnpipbocecaaGreatProg
import Derived.Test.YtiadnpipbocecaaGreatM22
import Derived.Shelf.SlSortCmp.NoneTotal
import Derived.Test.YtiadnpipbocecaaGreatM14
import Derived.Test.YtiadnpipbocecaaGreatM02
import Derived.Laws.Rows
import Derived.Test.YtiadnpipbocecaaGreatM20
import Derived.Test.YtiadnpipbocecaaGreatM05
import Derived.Test.YtiadnpipbocecaaGreatM16

/-
  DERIVED: THE SHELF's CONTRACTS AT THIS DUMP, IN PLAIN WORDS (tools/lay-plain.mjs out of 'TryzShelf18.lean', which tools/lay-shelf.mjs wrote): THE SAME DECLARATIONS UNDER THE SAME NAMES: 'import', 'namespace', 'open', 'def', 'theorem' AND NOTHING ELSE: no command of the shelf's: FOR A HAND-IN. Each laying: the table of numbers ('.._ren') and one theorem, a field a fact of the dump's own or the kernel's comparison; each contract: ONE APPLICATION.
-/
namespace Go.Proofs
open Go.Shelf
def Tryz.sort5_ren : Go.Shelf.Ren := ⟨fun | 6 => 49 | 15 => 75 | 14 => 74 | 28 => 97 | 29 => 98 | 20 => 89 | 21 => 90 | 22 => 91 | 23 => 92 | 24 => 93 | 25 => 94 | 26 => 95 | 27 => 96 | 46 => 104 | 47 => 105 | 48 => 106 | 49 => 107 | 50 => 108 | 57 => 110 | n => n, fun | 22 => 26 | 24 => 45 | 25 => 74 | 3 => 3 | 39 => 93 | 0 => 0 | 53 => 22 | 55 => 64 | 4 => 4 | 46 => 109 | 45 => 108 | 50 => 29 | 5 => 5 | 9 => 9 | 66 => 117 | 70 => 121 | 76 => 124 | 77 => 125 | n => n, fun | n => n⟩
theorem Tryz.sort5 : Go.Proofs.SlLaysF0.n6 Tryz.prog Tryz.sort5_ren := {
  mixed := by kernel_rfl
  f6 := ⟨Tryz.f49.name, by decide, Tryz.func49.trans (congrArg some (by kernel_rfl))⟩
  f14 := ⟨Tryz.f74.name, by decide, Tryz.func74.trans (congrArg some (by kernel_rfl))⟩
  f15 := Tryz.func75.trans (congrArg some (by kernel_rfl))
  f20 := ⟨Tryz.f89.name, by decide, Tryz.func89.trans (congrArg some (by kernel_rfl))⟩
  f21 := ⟨Tryz.f90.name, by decide, Tryz.func90.trans (congrArg some (by kernel_rfl))⟩
  f22 := ⟨Tryz.f91.name, by decide, Tryz.func91.trans (congrArg some (by kernel_rfl))⟩
  f23 := ⟨Tryz.f92.name, by decide, Tryz.func92.trans (congrArg some (by kernel_rfl))⟩
  f24 := ⟨Tryz.f93.name, by decide, Tryz.func93.trans (congrArg some (by kernel_rfl))⟩
  f25 := ⟨Tryz.f94.name, by decide, Tryz.func94.trans (congrArg some (by kernel_rfl))⟩
  f26 := ⟨Tryz.f95.name, by decide, Tryz.func95.trans (congrArg some (by kernel_rfl))⟩
  f27 := ⟨Tryz.f96.name, by decide, Tryz.func96.trans (congrArg some (by kernel_rfl))⟩
  f28 := Tryz.func97.trans (congrArg some (by kernel_rfl))
  f29 := Tryz.func98.trans (congrArg some (by kernel_rfl))
  f46 := ⟨Tryz.f104.name, by decide, Tryz.func104.trans (congrArg some (by kernel_rfl))⟩
  f47 := Tryz.func105.trans (congrArg some (by kernel_rfl))
  f48 := Tryz.func106.trans (congrArg some (by kernel_rfl))
  f49 := ⟨Tryz.f107.name, by decide, Tryz.func107.trans (congrArg some (by kernel_rfl))⟩
  f50 := ⟨Tryz.f108.name, by decide, Tryz.func108.trans (congrArg some (by kernel_rfl))⟩
  f57 := ⟨Tryz.f110.name, by decide, Tryz.func110.trans (congrArg some (by kernel_rfl))⟩
  t0 := Tryz.underlying0
  a0 := Tryz.isAgg0
  z0 := Tryz.sizeOf0
  v0 := Tryz.zeroValue0
  t3 := Tryz.underlying3
  a3 := Tryz.isAgg3
  z3 := Tryz.sizeOf3
  v3 := Tryz.zeroValue3
  t4 := Tryz.underlying4
  a4 := Tryz.isAgg4
  z4 := Tryz.sizeOf4
  v4 := Tryz.zeroValue4
  t5 := Tryz.underlying5
  a5 := Tryz.isAgg5
  z5 := Tryz.sizeOf5
  v5 := Tryz.zeroValue5
  t9 := Tryz.underlying9
  a9 := Tryz.isAgg9
  z9 := Tryz.sizeOf9
  v9 := Tryz.zeroValue9
  t22 := Tryz.underlying26
  a22 := Tryz.isAgg26
  z22 := Tryz.sizeOf26
  v22 := Tryz.zeroValue26
  t25 := Tryz.underlying74
  a25 := Tryz.isAgg74
  z25 := Tryz.sizeOf74
  v25 := Tryz.zeroValue74
  t39 := Tryz.underlying93
  a39 := Tryz.isAgg93
  z39 := Tryz.sizeOf93
  v39 := Tryz.zeroValue93
  t45 := Tryz.underlying108
  a45 := Tryz.isAgg108
  z45 := Tryz.sizeOf108
  v45 := Tryz.zeroValue108
  t46 := Tryz.underlying109
  a46 := Tryz.isAgg109
  z46 := Tryz.sizeOf109
  v46 := Tryz.zeroValue109
  t50 := Tryz.underlying29
  a50 := Tryz.isAgg29
  z50 := Tryz.sizeOf29
  v50 := Tryz.zeroValue29
  t53 := Tryz.underlying22
  a53 := Tryz.isAgg22
  z53 := Tryz.sizeOf22
  v53 := Tryz.zeroValue22
  t55 := Tryz.underlying64
  a55 := Tryz.isAgg64
  z55 := Tryz.sizeOf64
  v55 := Tryz.zeroValue64
  t66 := Tryz.underlying117
  a66 := Tryz.isAgg117
  z66 := Tryz.sizeOf117
  v66 := Tryz.zeroValue117
  t70 := Tryz.underlying121
  a70 := Tryz.isAgg121
  z70 := Tryz.sizeOf121
  v70 := Tryz.zeroValue121
  t76 := Tryz.underlying124
  a76 := Tryz.isAgg124
  z76 := Tryz.sizeOf124
  v76 := Tryz.zeroValue124
  t77 := Tryz.underlying125
  a77 := Tryz.isAgg125
  z77 := Tryz.sizeOf125
  v77 := Tryz.zeroValue125 }
end Go.Proofs

/-
  slices.SortFunc of wants by compare; Sort of the program.
  Conditions: the row is of the caller's own.
-/
set_option linter.unusedVariables false
namespace Go.Proofs.YtiadnpipbocecaaGreat
open Go.RowKit Go.Sort Go.Lib

theorem flat_spans (ps : List Sp) : flatK spanCells 2 ps.toArray = (spansCells ps).toArray := by
  apply Array.ext
  · simp [spansCells_length]
  · intro t h1 h2
    have ht : t < ps.length * 2 := by simpa [spansCells_length] using h2
    have hj : t / 2 < ps.length := by omega
    obtain ⟨g1, g2⟩ := spansCells_get ps (t / 2) _ (List.getElem?_eq_getElem hj)
    have e0 : (flatK spanCells 2 ps.toArray)[t]'h1 = (flatK spanCells 2 ps.toArray)[t]! := (getElem!_pos _ t h1).symm
    rw [e0, get_flatK _ _ _ _ (by simpa using ht)]
    have e1 : ps.toArray[t / 2]! = ps[t / 2] := by rw [getElem!_pos ps.toArray (t / 2) (by simpa using hj)]; simp
    rw [e1]
    have e2 : ((spansCells ps).toArray)[t]'h2 = (spansCells ps)[t]'(by simpa using h2) := by simp
    rw [e2]
    rcases Nat.mod_two_eq_zero_or_one t with h | h
    · rw [h]
      have : t / 2 * 2 = t := by omega
      rw [this] at g1
      have := (List.getElem?_eq_some_iff.1 g1).2
      rw [this]; rfl
    · rw [h]
      have : t / 2 * 2 + 1 = t := by omega
      rw [this] at g2
      have := (List.getElem?_eq_some_iff.1 g2).2
      rw [this]; rfl

theorem heap_put {w : World} {g n e : Nat} {os : Array Obj} {cur F : Array Value} (h : w.heap[g]? = some (.cells cur e (0, 0))) :
    (grow (putRow id (Sort.ahead w n) g 0 F) os).heap[g]? = some (.cells (putCells id 0 F cur) e (0, 0)) := by
  have hlt : g < w.heap.size := (Array.getElem?_eq_some_iff.1 h).1
  unfold grow putRow mapBlock Sort.ahead
  show ((w.heap.modify g _) ++ os)[g]? = _
  rw [Array.getElem?_append_left (by simpa using hlt), Array.getElem?_modify, if_pos rfl, h]
  rfl
theorem take_put (cur : Array Value) (F : List Value) (h : F.length ≤ cur.size) : (putCells id 0 F.toArray cur).toList.take F.length = F := by
  apply List.ext_getElem?
  intro j
  by_cases hj : j < F.length
  · rw [List.getElem?_take_of_lt hj, Array.getElem?_toList]
    simp [putCells, hj, show j < cur.size by omega]
  · rw [List.getElem?_take_eq_none (by omega), List.getElem?_eq_none (by omega)]
theorem below_put {w : World} {base g n : Nat} {os : Array Obj} {F : Array Value} (hg : base ≤ g) (hb : base ≤ w.heap.size) : Below base w (grow (putRow id (Sort.ahead w n) g 0 F) os) := by
  refine ⟨rfl, rfl, rfl, ?_, fun k hk => ?_⟩
  · simp [grow, putRow, mapBlock, Sort.ahead]
  · unfold grow putRow mapBlock Sort.ahead
    show ((w.heap.modify g _) ++ os)[k]? = _
    rw [Array.getElem?_append_left (by simp; omega), Array.getElem?_modify, if_neg (by omega)]

theorem ltS (x y : Sp) : ltOf cmpS x y = aheadB x y := cmpS_neg x y
theorem swoS : SWO (ltOf cmpS) where
  irrefl x := by rw [ltS]; exact ahead_irr x
  trans x y z h1 h2 := by rw [ltS] at *; exact ahead_trans h1 h2
  ntrans x y z h1 h2 := by rw [ltS] at *; rw [ahead_no] at *; omega

theorem sortFunc_any (base : Nat) (v : Value) (ps : List Sp) (w : World) (h : w.ownsRow base 45 2 v ps.length (spansCells ps)) (hl : ps.length ≤ 2000000) (hbase : base ≤ w.heap.size) :
    Calls Tryz.prog 49 #[v, .func (.func 50) #[] #[]] w
      (fun e w' => e = .returned (.tuple #[]) ∧ w'.ownsRow base 45 2 v ps.length (spansCells (sortT ps)) ∧ Below base w w') := by
  rcases Nat.eq_zero_or_pos ps.length with h0 | hpos
  · have : ps = [] := List.eq_nil_of_length_eq_zero h0
    subst this
    have hv : ∃ p cap, v = .slice p 0 cap := by
      rcases h.2 with ⟨h1, _⟩ | ⟨g, cap, cur, h1, _⟩
      · exact ⟨_, _, h1⟩
      · exact ⟨_, _, h1⟩
    obtain ⟨p, cap, rfl⟩ := hv
    refine (AnyF.slices_SortFunc_none Tryz.sort5 p cap _ w).mono ?_
    rintro e w' ⟨rfl, rfl⟩
    exact ⟨rfl, h, Below.refl _ _⟩
  · obtain ⟨g, cap, rfl, hbg, hgl, hncap, hcm, hat, hfr⟩ := own_lies h hpos
    have eg : ∀ args w, (callFunc 50 args).run Tryz.prog w = .ok (.enter 50 args) w := enters_of Tryz.func50 (by kernel_rfl) rfl
    have hH : HoldsK spanCells 2 w g 0 ps.toArray := by
      unfold HoldsK
      rw [flat_spans]
      intro j hj
      have hj' : j < ps.length * 2 := by simpa [spansCells_length] using hj
      rw [Nat.zero_add]
      refine ⟨?_, hfr j hj'⟩
      have := spansCells_of (W := w) (b := g) (off := 0) (ps := ps) (fun i p hp => by rw [Nat.zero_add]; exact hat i p hp) j ((spansCells ps)[j]'(by rw [spansCells_length]; exact hj')) (List.getElem?_eq_getElem _)
      rw [Nat.zero_add] at this
      rw [this]
      congr 1
      rw [getElem!_pos _ j hj]
      simp
    have hcon := AnyQ.slices_SortFunc Tryz.sort5 2 Tryz.isAgg45 Tryz.sizeOf45 spanCells (fun _ => rfl) (fun x v hv => by simp [spanCells] at hv; rcases hv with rfl | rfl <;> rfl) cmpS swoS 50 #[] g 0 cap ps.toArray w eg
      (fun m os dk hs x y => compare_any x y _) hH hgl (by simp; omega)
    have hsz : ps.toArray.size = ps.length := by simp
    rw [hsz] at hcon
    refine Calls.mono hcon ?_
    rintro e w' ⟨rfl, d', n, os, hp, hs, rfl⟩
    obtain ⟨p1, p2, p3⟩ := hp
    have hlen : d'.toList.length = ps.length := by rw [Array.length_toList, p1, hsz]
    have hper : d'.toList.Perm ps := by
      have e1 : (d'.extract 0 ps.length).toList = d'.toList := by rw [← hlen]; simp
      have e2 : (ps.toArray.extract 0 ps.length).toList = ps := by simp
      rw [e1, e2] at p3
      exact p3
    have hsor : SortedS d'.toList := by
      unfold SortedS
      rw [List.pairwise_iff_getElem]
      intro i j hi hj hij
      have := hs i j (Nat.zero_le _) hij (by omega)
      rw [ltS] at this
      have e1 : d'[i]! = d'.toList[i] := by rw [getElem!_pos d' i (by rw [← Array.length_toList]; exact hi)]; simp
      have e2 : d'[j]! = d'.toList[j] := by rw [getElem!_pos d' j (by rw [← Array.length_toList]; exact hj)]; simp
      rw [e1, e2] at this
      simpa using this
    have hse : d'.toList = sortT ps := sort_eq hsor hper
    refine ⟨rfl, ?_, ?_⟩
    · obtain ⟨h1, h2⟩ := h
      rcases h2 with ⟨h2, _⟩ | ⟨g', cap', cur, hv, hg, hh, hn, hc, hs', ht⟩
      · cases h2
      · injection hv with e1 e2 e3
        injection e1 with e1
        injection e1 with e1
        subst e1 e3
        rw [← hse]
        have hF : (flatK spanCells 2 d') = (spansCells d'.toList).toArray := by
          have := flat_spans d'.toList
          simpa using this
        refine ⟨by rw [spansCells_length, hlen], .inr ⟨g, cap, _, rfl, hbg, heap_put hh, hn, hc, by simp [putCells, hs'], ?_⟩⟩
        rw [hF]
        have hl2 : (spansCells d'.toList).length = ps.length * 2 := by rw [spansCells_length, hlen]
        rw [← hl2]
        exact take_put cur _ (by rw [hl2, hs']; omega)
    · exact below_put hbg hbase

/-- Sort of the program. -/
theorem sort_any (v : Value) (ps : List Sp) (w : World) (h : SpansAt w v ps) :
    Calls Tryz.prog 27 #[v] w (RetO w.heap.size 45 (sortT ps) w) := by
  have HL := Lib.hid h.len
  have HC := Lib.hid (clone_any v ps w h)
  clear h
  go_enter Tryz.func27, Tryz.ntmps27
  go_wp2_with fail
  refine HC.out.mono ?_
  rintro e w1 ⟨v1, rfl, hown1, hb1⟩
  have HS := Lib.hid (sortFunc_any w.heap.size v1 ps w1 hown1 HL.out hb1.size)
  have HB1 := Lib.hid hb1
  clear hown1 hb1
  go_wp2_with fail
  refine HS.out.mono ?_
  rintro e w2 ⟨rfl, hown2, hb2⟩
  have HB2 := Lib.hid (HB1.out.trans hb2)
  have HO2 := Lib.hid hown2
  clear hown2 hb2
  go_wp2
  go_ret
  refine ⟨_, rfl, ?_, HB2.out⟩
  rw [sortT_length]
  exact HO2.out
end Go.Proofs.YtiadnpipbocecaaGreat

/-
  A right plan is a light one; a plan's own block is none of its places'; three results, the first in a block.
  Conditions: none.
-/
set_option linter.unusedVariables false
namespace Go.Proofs.YtiadnpipbocecaaGreat
open Go.RowKit

theorem Right.light {f : Int} {m : Nat} {l : List Pl} (h : Right f m l) (hw : WideL l) : LightL l := by
  refine ⟨?_, hw.ok⟩
  have h1 : (l.map fun y => idxU y.u).length ≤ 240 := by
    refine nodup_lt 240 _ ?_ ?_
    · rw [List.Nodup, List.pairwise_iff_getElem]
      intro i j hi hj hij he
      rw [List.length_map] at hi hj
      rw [List.getElem_map, List.getElem_map] at he
      obtain ⟨d, rfl⟩ : ∃ d, j = i + d + 1 := ⟨j - i - 1, by omega⟩
      have h2 := h.rises d i _ _ (List.getElem?_eq_getElem hi) (List.getElem?_eq_getElem hj)
      have h3 := idxU_inj (h.place _ (List.getElem_mem hi)).unit (h.place _ (List.getElem_mem hj)).unit he
      omega
    · intro x hx
      obtain ⟨y, hy, rfl⟩ := List.mem_map.1 hx
      exact idxU_lt (h.place y hy).unit
  rw [List.length_map] at h1
  omega

/-! ### A plan's own block is none of its places' -/
theorem pn_cell {W : World} {R : Nat} {f : Int} {M : Nat} {v : Value} {T : TypeId} (h : W.heap[R]? = some (.cells #[.int .i64 f, .int .u32 (M : Int), v] T (0, 0))) (o : Nat) :
    W.cell? ⟨R, o, none⟩ = (#[.int .i64 f, .int .u32 (M : Int), v] : Array Value)[o]? := by
  simp [World.cell?, h]
theorem pcs_not {F : Nat → Prop} {W : World} {R : Nat} {f : Int} {M : Nat} {v u : Value} {T : TypeId} (h : W.heap[R]? = some (.cells #[.int .i64 f, .int .u32 (M : Int), v] T (0, 0))) {ps : List Pc} (hp : PcsIn F W u ps) : PcsIn (fun b => F b ∧ b ≠ R) W u ps := by
  obtain ⟨A, c, e, h1, h2, h3⟩ := hp
  refine ⟨A, c, e, h1, h2, fun hn => ?_⟩
  obtain ⟨b, off, e2, hb, hF, hc⟩ := h3 hn
  refine ⟨b, off, e2, hb, ⟨hF, ?_⟩, hc⟩
  rintro rfl
  obtain ⟨y, hy⟩ := exP_at (xs := ps) (k := 0) hn
  obtain ⟨g0, g1⟩ := hc 0 y hy
  rw [pn_cell h] at g0 g1
  rcases off with _ | _ | _ | off <;> simp at g0 g1
theorem pls_not {F : Nat → Prop} {W : World} {R : Nat} {f : Int} {M : Nat} {v u : Value} {T : TypeId} (h : W.heap[R]? = some (.cells #[.int .i64 f, .int .u32 (M : Int), v] T (0, 0))) {l : List Pl} (hp : PlsIn F W u l) : PlsIn (fun b => F b ∧ b ≠ R) W u l := by
  obtain ⟨ls, rfl, A, c, e, h1, h2, h3, h4⟩ := hp
  refine ⟨ls, rfl, A, c, e, h1, h2, fun hn => ?_, fun p hp => pcs_not h (h4 p hp)⟩
  obtain ⟨b, off, e2, hb, hF, hc⟩ := h3 hn
  refine ⟨b, off, e2, hb, ⟨hF, ?_⟩, hc⟩
  rintro rfl
  obtain ⟨y, hy⟩ := exP_at (xs := ls) (k := 0) hn
  obtain ⟨g0, g1, _⟩ := hc 0 y hy
  rw [pn_cell h] at g0 g1
  rcases off with _ | _ | _ | off <;> simp at g0 g1

theorem results_row_tmp2 {P : Program} {fn : Func} {p u v : Tmp} {ty : TypeId} (h : fn.results = #[.cell p ty, .tmp u, .tmp v]) (tmps : Array Value) (w : World) (g : Nat) (t : TypeId) (cs : Array Value) (fr : Nat × Nat) (d : TypeDesc)
    (hp : tmps.getD p undef = .pointer (some ⟨g, 0, none⟩)) (hg : w.heap[g]? = some (.cells cs t fr))
    (hu : P.underlying ty = some d) (hd : (match d with | .struct _ | .array _ _ => true | _ => false) = true) (hi : (P.info? ty).map (·.size) = some cs.size) (x y : Value) (hx : tmps.getD u undef = x) (hy : tmps.getD v undef = y) :
    (results fn tmps).run P w = .ok (.tuple #[.agg cs, x, y]) w := by
  have e : (results fn tmps).run P w = ((asAddr (tmps.getD p undef)).run P w).andThen fun a w₁ => ((loadVar ty a).run P w₁).andThen fun v' w₂ => .ok (.tuple #[v', tmps.getD u undef, tmps.getD v undef]) w₂ := by
    simp only [results, h]
    simp [Sem.run_bind, Result.andThen]
  rw [e, hp, hx, hy]
  simp [asAddr, run_loadVar_row w g t ty cs fr d hg hu hd hi, Result.andThen]
end Go.Proofs.YtiadnpipbocecaaGreat

/-
  First fit by falling sizes, of the program.
  Conditions: the slices read as places, as wants; the numbers are of their kinds; both are short.
-/
set_option linter.unusedVariables false
set_option linter.unusedSimpArgs false
namespace Go.Proofs.YtiadnpipbocecaaGreat
open Go.RowKit

/-- Some wants behind: the plan so far in block F, who is left over in a row of one's own. -/
structure FitSt (f : Int) (m : Nat) (base F : Nat) (w6 wr : World) (so v : Value) (l : List Pl) (over : List Sp) : Prop where
  apart : Apart (fun b => b = F) w6 wr
  box : wr.heap[F]? = some (.cells #[.int .i64 f, .int .u32 m, v] 25 (0, 0))
  pls : PlsIn (fun b => base ≤ b ∧ b ≠ F ∧ so.ownBlock ≠ some b) wr v l
  own : wr.ownsRow w6.heap.size 45 2 so over.length (spansCells over)
theorem FitSt.keep {f : Int} {m base F : Nat} {w6 wr W : World} {so v : Value} {l : List Pl} {over : List Sp} (h : FitSt f m base F w6 wr so v l over) (hb : Below wr.heap.size wr W) : FitSt f m base F w6 W so v l over :=
  ⟨h.apart.trans (Apart.of_below (F := fun _ => False) hb) (fun x _ e => e.elim), keep_block h.box hb, h.pls.keep hb, own_below5 h.own hb⟩
theorem FitSt.put {f : Int} {m base F : Nat} {w6 w' W : World} {so v v' : Value} {l l' : List Pl} {over : List Sp} (h : FitSt f m base F w6 w' so v l over) (hb : Below w'.heap.size w' W) (hp : PlsIn (fun b => w'.heap.size ≤ b) W v' l') (hbase : base ≤ w'.heap.size) (hF : F < w6.heap.size) :
    FitSt f m base F w6 (W.setRow F #[.int .i64 f, .int .u32 m, v']) so v' l' over := by
  have hk := h.keep hb
  have hlt := heap_lt h.box
  refine ⟨hk.apart.trans (F' := fun b => b = F) ⟨rfl, rfl, rfl, by simp, fun k _ hne => setRow_other _ _ _ _ hne⟩ (fun x _ e => e), setRow_heap _ _ _ _ _ _ hk.box, ?_, own_keep hk.own fun k hv => setRow_other _ _ _ _ ?_⟩
  · refine (PlsIn.setRow hp (N := F) (.inl (by omega))).mono fun b _ hF' => ⟨by omega, by omega, fun e => ?_⟩
    have := own_lt h.own e
    omega
  · have := own_base5 hk.own k hv
    omega
theorem FitSt.more {f : Int} {m base F : Nat} {w6 W W' : World} {so so' v : Value} {l : List Pl} {over over' : List Sp} (h : FitSt f m base F w6 W so v l over) (ho : W'.ownsRow w6.heap.size 45 2 so' over'.length (spansCells over')) (hg : W.grownBy W' so.ownBlock) (hat : so'.ownBlock = so.ownBlock ∨ so'.ownBlock = some W.heap.size) (hF : F < w6.heap.size) :
    FitSt f m base F w6 W' so' v l over' := by
  have hne : ∀ k, so.ownBlock = some k → w6.heap.size ≤ k := own_base5 h.own
  refine ⟨h.apart.trans (F' := fun b => so.ownBlock = some b) ⟨hg.os, hg.tape, hg.output, hg.size, fun k hk hn => hg.block k hk fun e => hn e.symm⟩ (fun x hx e => by have := hne x e; omega), (hg.block F (heap_lt h.box) fun e => by have := hne F e.symm; omega).trans h.box, ?_, ho⟩
  refine ((h.pls.mono (G := fun b => b < W.heap.size ∧ base ≤ b ∧ b ≠ F ∧ so.ownBlock ≠ some b) fun b hb hF => ⟨hb, hF⟩).keepF hg.size fun b hb hF => hg.block b hb fun e => hF.2.2.2 e.symm).mono fun b _ hF => ⟨hF.2.1, hF.2.2.1, fun e => ?_⟩
  rcases hat with hat | hat
  · exact hF.2.2.2 (hat ▸ e)
  · rw [hat] at e
    have := Option.some.inj e
    omega
/-- What Fit answers. -/
def RetFit (f : Int) (m : Nat) (l : List Pl) (ws : List Sp) (w : World) (e : Ending) (w' : World) : Prop := ∃ E : Int, Why f m l ws E ∧ Below w.heap.size w w' ∧
  ((E = 0 ∧ ∃ v vo, e = .returned (.tuple #[planA f m v, vo, .int .i64 0]) ∧ PlsIn (fun b => w.heap.size ≤ b) w' v (fitT f m l (sortT ws)).1 ∧ SpansAt w' vo (fitT f m l (sortT ws)).2) ∨
   (E ≠ 0 ∧ e = .returned (.tuple #[planA 0 0 (.slice none 0 0), .slice none 0 0, .int .i64 E])))
theorem dropT_zero {f : Int} {m : Nat} {l : List Pl} (h : Right f m l) : dropT l 0 = l := drop_absent fun x hx => by
  have := isU_range (h.place x hx).unit
  omega

set_option maxRecDepth 100000 in
set_option maxHeartbeats 8000000 in
theorem fit_any (f : Int) (m : Nat) (v : Value) (l : List Pl) (vw : Value) (ws : List Sp) (w : World) (h : PlsAt w v l) (hL : LightL l) (hw : SpansAt w vw ws) (hi : IntsS ws) (hm : m < 4294967296) (hl : l.length + ws.length ≤ 300) :
    Calls Tryz.prog 9 #[planA f m v, vw] w (RetFit f m l ws w) := by
  obtain ⟨i0, hi0, hz0, hz1, hz2⟩ := info_parts Tryz.infoSpan
  have HCK := Lib.hid (fun w h hw => checkF_any f m v l vw ws w h hL hw hi hm)
  have HDR := Lib.hid (fun w h => planDrop_any f m v l 0 w h (by omega) (fun x hx => (hL.ok x hx).2))
  have HSO := Lib.hid (fun w h => sort_any vw ws w h)
  have HOK := Lib.hid hL.ok
  have HH := Lib.hid h
  have HW := Lib.hid hw
  have HLL := Lib.hid hl
  unfold planA at HCK HDR
  unfold RetRow planA at HDR
  obtain ⟨w1, P, hw1, hP, hPl, hb1, hbox⟩ := box_any w #[.int .i64 f, .int .u32 m, v] 25
  obtain ⟨w2, R, hw2, hR, hRl, hb2, hrox⟩ := box_any w1 #[.int .i64 0, .int .u32 0, .slice none 0 0] 25
  have HB2 := Lib.hid (hb1.trans (hb2.mono hb1.size))
  have HPB := Lib.hid (keep_block hbox hb2)
  have HRB := Lib.hid hrox
  have HLT := Lib.hid (show w.heap.size ≤ P ∧ P < R ∧ R < w2.heap.size by have := hb1.size; omega)
  obtain ⟨p0, p1, p2⟩ := three_heads HPB.out
  clear h hL hw hi hl hb1 hb2 hbox hrox
  unfold planA
  go_enter Tryz.func9, Tryz.ntmps9
  go_wp2_with fail
  refine (HCK.out _ (HH.out.keep HB2.out) (HW.out.keep HB2.out)).mono ?_
  rintro e w3 ⟨E, rfl, hwhy, hb3⟩
  have HWH := Lib.hid hwhy
  have HB23 := Lib.hid hb3
  have HB3 := Lib.hid (HB2.out.trans (hb3.mono HB2.out.size))
  have HPB3 := Lib.hid (keep_block HPB.out hb3)
  have HRB3 := Lib.hid (keep_block HRB.out hb3)
  have HLT3 := Lib.hid (show R < w3.heap.size from heap_lt HRB3.out)
  clear hb3 hwhy p0 p1 p2 hw1 hP hw2 hR
  obtain ⟨p0, p1, p2⟩ := three_heads HPB3.out
  by_cases he : E = 0
  · subst he
    have hg := HWH.out.zero
    have HG := Lib.hid hg
    have hdz := dropT_zero hg.right
    rw [hdz] at HDR
    have HINV := Lib.hid (fun k hk => hg.inv (k := k) hk)
    have HSL := Lib.hid (sortT_length ws)
    have HWO := Lib.hid ((WOk.of_chk hg.chk).2.perm (sortT_perm ws))
    clear hdz hg
    go_wp2_with fail
    refine (HDR.out _ (HH.out.keep HB3.out)).mono ?_
    rintro e w4 ⟨v4, ls, rfl, hls, hrow, hb4⟩
    have HB4 := Lib.hid (HB3.out.trans (hb4.mono HB3.out.size))
    have hpl4 := pls_of_own hrow.own hrow.pcs
    rw [hls] at hpl4
    have HPL4 := Lib.hid (hpl4.mono (G := fun b => w3.heap.size ≤ b) fun b _ hF => hF.elim (fun h => h.1) id)
    have HRB4 := Lib.hid (keep_block HRB3.out hb4)
    have hs4 := hb4.size
    obtain ⟨A4, c4, hv4⟩ := own_form hrow.own
    obtain ⟨n4, hn4⟩ : ∃ n4, ls.length = n4 := ⟨_, rfl⟩
    rw [hn4] at hv4
    subst hv4
    clear hls hrow hb4 hpl4 hn4
    obtain ⟨wz, F, hwz, hF, hFl, hbz, hfz⟩ := box_any w4 #[.int .i64 0, .int .u32 0, .slice none 0 0] 25
    have HFZ := Lib.hid hfz
    obtain ⟨w5, hw5⟩ : ∃ w5, wz.setRow F #[.int .i64 f, .int .u32 m, .slice A4 n4 c4] = w5 := ⟨_, rfl⟩
    have hb5 : Below w4.heap.size w4 w5 := by rw [← hw5]; exact below_row hbz (by omega) _
    have HB5 := Lib.hid (HB4.out.trans (hb5.mono HB4.out.size))
    have HFB5 : Hid (w5.heap[F]? = some (.cells #[.int .i64 f, .int .u32 m, .slice A4 n4 c4] 25 (0, 0))) := Lib.hid (by rw [← hw5]; exact setRow_heap _ _ _ _ _ _ hfz)
    have HRB5 := Lib.hid (keep_block HRB4.out hb5)
    have HPL5 : Hid (PlsIn (fun b => w3.heap.size ≤ b ∧ b ≠ F) w5 (.slice A4 n4 c4) l) := Lib.hid (((HPL4.out.mono (G := fun b => w3.heap.size ≤ b ∧ b ≠ F) fun b hb h => ⟨h, by omega⟩).keep hb5))
    have HSO5 := Lib.hid (HSO.out _ (HW.out.keep HB5.out))
    have HF4 := Lib.hid (show w3.heap.size ≤ F ∧ F < w5.heap.size from ⟨by omega, heap_lt HFB5.out⟩)
    clear hb5 hbz hfz p0 p1 p2 hs4
    go_wp2_with (refine wpList_store_row rfl _ _ _ rfl F #[.int .i64 f, .int .u32 m, .slice A4 n4 c4] rfl rfl 25 _ HFZ.out (Tryz.sizePn _ _ _) rfl (one3 _ _ _ _ _) ?_)
    refine HSO5.out.mono ?_
    rintro e w6 ⟨v6, rfl, hown6, hb6⟩
    obtain ⟨A6, c6, hv6⟩ := own_form hown6
    obtain ⟨srt, hsrt⟩ : ∃ srt, sortT ws = srt := ⟨_, rfl⟩
    rw [hsrt] at hown6 hv6 HINV HSL HWO
    have HSR := Lib.hid hsrt
    obtain ⟨n, hn⟩ : ∃ n, srt.length = n := ⟨_, rfl⟩
    rw [hn] at hv6
    have HN := Lib.hid hn
    have HAT : Hid (0 < n → ∃ g, A6 = some ⟨g, 0, none⟩ ∧ w5.heap.size ≤ g ∧ g < w6.heap.size ∧ n ≤ c6 ∧ ∀ j p, srt[j]? = some p → PairAt w6 g (j * 2) p) := Lib.hid fun h0 => by
      obtain ⟨g, cap, e1, e2, e3, e4, e5, e6, _⟩ := own_lies hown6 (by omega)
      rw [hv6] at e1
      injection e1 with e7 e8 e9
      subst e9
      exact ⟨g, e7, e2, e3, by omega, e6⟩
    subst hv6
    have HB6 := Lib.hid (HB5.out.trans (hb6.mono HB5.out.size))
    have HF6 := Lib.hid (show F < w6.heap.size by have := hb6.size; have := HF4.out; omega)
    have HRB6 := Lib.hid (keep_block HRB5.out hb6)
    have HST0 : Hid (FitSt f m w3.heap.size F w6 w6 (.slice none 0 0) (.slice A4 n4 c4) l []) := Lib.hid ⟨Apart.refl _ _, keep_block HFB5.out hb6, (HPL5.out.keep hb6).mono fun b _ h => ⟨h.1, h.2, (fun e => by cases e)⟩, World.ownsRow_nil _ _ _ _⟩
    have HS6 := Lib.hid (show w3.heap.size ≤ w6.heap.size by have := HF4.out; have := HF6.out; omega)
    have hnw : n = ws.length := by have := HSL.out; have := HN.out; omega
    have HNW := Lib.hid hnw
    clear hnw
    have hnl : n ≤ 300 := by have := HSL.out; have := HLL.out; omega
    clear hown6 hb6 hn hsrt hw5 hwz hF
    go_wp2_with fail
    go_loopg [9, 11, 12, 13, 26] n (fun gg s9 _ _ _ s26 wr => ∃ (k : Nat) (vp : Value), k ≤ n ∧ gg = n - k ∧ s26 = .int .i64 k ∧ FitSt f m w3.heap.size F w6 wr s9 vp (fitT f m l (srt.take k)).1 (fitT f m l (srt.take k)).2)
    case atStart => exact ⟨0, _, Nat.zero_le _, by omega, rfl, HST0.out⟩
    case round =>
      obtain ⟨k, vp, hk, hg, rfl, hst⟩ := hrel
      have HG := Lib.hid hg
      have HST := Lib.hid hst
      have hinv := HINV.out k (by have := HSL.out; have := HN.out; omega)
      have hlen := hinv.len
      rw [List.length_take, Nat.min_eq_left (by have := HN.out; omega)] at hlen
      by_cases hlt : k < n
      · have hltz : (k : Int) < (n : Int) := by omega
        have hk0 : (0 : Int) ≤ (k : Int) := by omega
        obtain ⟨y, hy⟩ := ex_at (xs := srt) (k := k) (by rw [HN.out]; exact hlt)
        have HSTEP := Lib.hid (fitT_take (f := f) (m := m) (l := l) hy)
        have hyok := HWO.out.all y (List.mem_of_getElem? hy)
        obtain ⟨g, hA, hg5, hg6, hnc, hcell⟩ := HAT.out (by omega)
        subst hA
        obtain ⟨c1, c2⟩ := hcell k y hy
        have hgne : ¬ g = F := by have := HF4.out; omega
        have hbl := hst.apart.block g hg6 hgne
        have c1 := (cell_same hbl (k * 2)).trans c1
        have c2 := (cell_same hbl (k * 2 + 1)).trans c2
        obtain ⟨w7, N, hw7, hN, hNl, hb7, hnb⟩ := box_any wr #[.int .i64 y.1, .int .i64 y.2] 45
        obtain ⟨n0, n1⟩ := two_heads hnb
        have hst7 := hst.keep hb7
        obtain ⟨f0, f1, f2⟩ := three_heads hst7.box
        have HST7 := Lib.hid hst7
        have HNB := Lib.hid hnb
        generalize fitT f m l (srt.take k) = st at *
        obtain ⟨L, O⟩ := st
        simp only at hinv hlen hst hst7 HST7 HSTEP
        have hLL : LightL L := ⟨by have := HLL.out; have := HNW.out; omega, hinv.ok HOK.out⟩
        have HFR := Lib.hid (first_any f m vp L y.2 w7 hst7.pls.any hLL hinv.right hyok.2.1)
        have HR := Lib.hid hinv.right
        have HLI := Lib.hid hLL
        have HOL := Lib.hid (show O.length ≤ 300 by have := HLL.out; have := HNW.out; omega)
        have HLE := Lib.hid (show L.length ≤ 999 by have := HLL.out; have := HNW.out; omega)
        obtain ⟨o, ho⟩ : ∃ o, firstR f m L y.2 = o := ⟨_, rfl⟩
        rw [ho] at HFR
        have HO := Lib.hid ho
        have HYR := Lib.hid (isU_range hyok.1)
        unfold planA at HFR
        clear hg hst hst7 hinv hlen hy hyok hcell hbl hb7 hnb hLL ho hnc
        cases o with
        | none =>
          have HS1 : Hid (fitT f m l (srt.take (k + 1)) = (L, O ++ [y])) := Lib.hid (HSTEP.out.trans (fitS_none (st := (L, O)) (w := y) HO.out))
          go_wp2_with fail
          refine HFR.out.mono ?_
          rintro e w8 ⟨rfl, hb8⟩
          have HST8 := Lib.hid (HST7.out.keep hb8)
          have HNB8 := Lib.hid (keep_block HNB.out hb8)
          obtain ⟨a0, a1⟩ := two_heads HNB8.out
          have hsz : w6.heap.size ≤ w8.heap.size := HST8.out.apart.size
          have hle := HOL.out
          clear hb8 f0 f1 f2 n0 n1 c1 c2 hw7 hN HSTEP
          go_wp2_with (at_builtin; refine wpList_append_own_at _ rfl _ _ 26 rfl w6.heap.size 45 i0 (.agg #[.int .i64 0, .int .i64 0]) 2 16 Tryz.underlying26 hi0 hz0 hz1 hz2 rfl (by decide) _ _ _ rfl (HST8.out.own.alloc _) ⟨w8.heap.size, 0, none⟩ 1 1 [.int .i64 y.1, .int .i64 y.2] rfl rfl ?c1 ?c2 ?c3 ?c4 ?c5 ?_)
          case c1 => exact news_two _ _ rfl _ _ _
          case c2 => intro u hu; simp at hu; rcases hu with rfl | rfl <;> rfl
          case c3 => unfold maxLen; omega
          case c4 => omega
          case c5 => simp; omega
          intro v9 w9 hown9 hgrow _ hat
          have hba := (Below.refl w8.heap.size w8).alloc (Nat.le_refl _) (.cells #[.int .i64 y.1, .int .i64 y.2] 45)
          have HST9 := Lib.hid ((HST8.out.keep hba).more (over' := O ++ [y]) (by rw [List.length_append, spansCells_snoc]; exact hown9) hgrow (hat.imp id fun e => e.trans (by simp)) HF6.out)
          clear hown9 hgrow hsz hat hba a0 a1
          go_wp2_with fail
          go_roundg (n - (k + 1))
          case measure => have := HG.out; omega
          case rel => exact ⟨k + 1, vp, by omega, by go_num, rfl, by rw [HS1.out]; exact HST9.out⟩
        | some c =>
          have HS1 : Hid (fitT f m l (srt.take (k + 1)) = (addU L ⟨y.1, y.2, (c : Int), []⟩, O)) := Lib.hid (HSTEP.out.trans (fitS_some (st := (L, O)) (w := y) HO.out))
          have HPU := Lib.hid (fun w h => planPut_any f m vp (.slice none 0 0) L ⟨y.1, y.2, (c : Int), []⟩ w h (PcsIn.nil _ _) HLE.out (fun x hx => (HLI.out.ok x hx).2) (by simp) (posU (dropT L y.1) y.1) (posU_at _ _ (dropT_asc HR.out.pairs _)))
          unfold planA plA RetPn planA at HPU
          have HAD := Lib.hid (show putPl (dropT L y.1) ⟨y.1, y.2, (c : Int), []⟩ (posU (dropT L y.1) y.1) = addU L ⟨y.1, y.2, (c : Int), []⟩ from rfl)
          rw [HAD.out] at HPU
          go_wp2_with fail
          refine HFR.out.mono ?_
          rintro e w8 ⟨rfl, hb8⟩
          have HST8 := Lib.hid (HST7.out.keep hb8)
          have HNB8 := Lib.hid (keep_block HNB.out hb8)
          obtain ⟨a0, a1⟩ := two_heads HNB8.out
          have HPU8 := Lib.hid (HPU.out _ HST8.out.pls.any)
          clear hb8 f0 f1 f2 n0 n1 c1 c2 hw7 hN HSTEP HPU
          obtain ⟨f0, f1, f2⟩ := three_heads HST8.out.box
          unfold coreV
          go_wp2_with fail
          refine HPU8.out.mono ?_
          rintro e w9 ⟨v9, rfl, hpl9, hb9⟩
          obtain ⟨A9, c9, hv9, _, _⟩ := hpl9.form
          obtain ⟨n9, hn9⟩ : ∃ n9, (addU L ⟨y.1, y.2, (c : Int), []⟩).length = n9 := ⟨_, rfl⟩
          rw [hn9] at hv9
          subst hv9
          have HB9 := Lib.hid (HST8.out.keep hb9)
          have HST9 := Lib.hid (HST8.out.put hb9 hpl9 (by have := HS6.out; have := HST8.out.apart.size; omega) HF6.out)
          clear hb9 hpl9 f0 f1 f2 a0 a1 hn9
          go_wp2_with (refine wpList_store_row rfl _ _ _ rfl F #[.int .i64 f, .int .u32 m, .slice A9 n9 c9] rfl rfl 25 _ HB9.out.box (Tryz.sizePn _ _ _) rfl (one3 _ _ _ _ _) ?_)
          go_roundg (n - (k + 1))
          case measure => have := HG.out; omega
          case rel => exact ⟨k + 1, _, by omega, by go_num, rfl, by rw [HS1.out]; exact HST9.out⟩
      · have hltz : ¬ (k : Int) < (n : Int) := by omega
        have HTK := Lib.hid (show srt.take k = srt from List.take_of_length_le (by rw [HN.out]; omega))
        rw [HTK.out] at hst
        have hRne : ¬ R = F := by have := HF4.out; have := HLT3.out; omega
        have HRB7 := Lib.hid ((hst.apart.block R (heap_lt HRB6.out) hRne).trans HRB6.out)
        have HST' := Lib.hid hst
        have hob : ∀ b, u9.ownBlock = some b → b ≠ R := fun b hb => by have := own_base5 hst.own b hb; have := HS6.out; have := HLT3.out; omega
        have HEND : Hid (RetFit f m l ws w (.returned (.tuple #[planA f m vp, u9, .int .i64 0])) (wr.setRow R #[.int .i64 f, .int .u32 m, vp])) := Lib.hid ⟨0, HWH.out, below_row (HB6.out.trans (hst.apart.below HB6.out.size fun b hb e => by have := HF4.out; have := HB3.out.size; omega)) (by have := HLT.out; omega) _, .inl ⟨rfl, vp, u9, rfl, by
          rw [HSR.out]
          exact (PlsIn.setRow hst.pls (.inl fun h => by have := h.1; have := HLT3.out; omega)).mono fun b _ h => by have := h.1; have := HB3.out.size; omega, by
          rw [HSR.out]
          exact spans_of_own (base := w6.heap.size) (e := 45) (own_keep hst.own fun b hb => setRow_other _ _ _ _ (hob b hb)) (by
            have h1 := hinv.len
            have h2 := HLL.out
            have h3 := HSL.out
            rw [HTK.out] at h1
            omega)⟩⟩
        obtain ⟨Av, cv, hvv, _, _⟩ := hst.pls.form
        obtain ⟨nv, hnv⟩ : ∃ nv, (fitT f m l srt).1.length = nv := ⟨_, rfl⟩
        rw [hnv] at hvv
        subst hvv
        obtain ⟨f0, f1, f2⟩ := three_heads hst.box
        clear hg hst hinv hlen hob hnv
        go_wp2_with (refine wpList_store_row rfl _ _ _ rfl R #[.int .i64 f, .int .u32 m, .slice Av nv cv] rfl rfl 25 _ HRB7.out (Tryz.sizePn _ _ _) rfl (one3 _ _ _ _ _) ?_)
        refine bodyPost_ret (v := .tuple #[planA f m (.slice Av nv cv), u9, .int .i64 0]) (results_row_tmp2 rfl _ _ R _ _ _ _ rfl (setRow_heap _ _ _ _ _ _ HRB7.out) Tryz.underlying25 rfl (Tryz.sizePn _ _ _) _ _ rfl rfl) rfl ?_
        exact HEND.out
  · have hb0 : (E != 0) = true := by simpa using he
    have HE := Lib.hid he
    clear he
    go_wp2_with (refine wpList_store_row rfl _ _ _ rfl R #[.int .i64 0, .int .u32 0, .slice none 0 0] rfl rfl 25 _ HRB3.out (Tryz.sizePn _ _ _) rfl (one3 _ _ _ _ _) ?_)
    refine bodyPost_ret (v := .tuple #[planA 0 0 (.slice none 0 0), .slice none 0 0, .int .i64 E]) (results_row_tmp2 rfl _ _ R _ _ _ _ rfl (setRow_heap _ _ _ _ _ _ HRB3.out) Tryz.underlying25 rfl (Tryz.sizePn _ _ _) _ _ rfl rfl) rfl ?_
    exact ⟨E, HWH.out, below_row HB3.out (by have := HLT.out; omega) _, .inr ⟨HE.out, rfl⟩⟩
end Go.Proofs.YtiadnpipbocecaaGreat

/-
  When it is sure that nobody is left over, of the program.
  Conditions: the slice reads as wants; the numbers are ints.
-/
set_option linter.unusedVariables false
set_option linter.unusedSimpArgs false
namespace Go.Proofs.YtiadnpipbocecaaGreat
open Go.RowKit

/-- What wants are that are right: few, and small. -/
theorem chk_small {f : Int} {ws : List Sp} (h : chkT f ws = 0) : (2 ≤ f ∧ f ≤ 64) ∧ (∀ w ∈ ws, 1 ≤ w.2 ∧ w.2 ≤ 64) ∧ ∀ k, (0 ≤ sumS (ws.take k) ∧ sumS (ws.take k) ≤ 20000) ∧ 0 ≤ maxT (ws.take k) ∧ maxT (ws.take k) ≤ 64 := by
  obtain ⟨hf, hw⟩ := WOk.of_chk h
  have hall : ∀ w ∈ ws, 1 ≤ w.2 ∧ w.2 ≤ 64 := fun w hm => by
    have := hw.all w hm
    omega
  refine ⟨hf, hall, fun k => ⟨?_, maxT_nonneg _, maxT_bound (by decide) _ fun w hm => (hall w (List.mem_of_mem_take hm)).2⟩⟩
  have h1 := sumS_bound (ws.take k) fun w hm => by
    have := hall w (List.mem_of_mem_take hm)
    omega
  have h2 := few_wants h
  have h3 : (ws.take k).length ≤ 240 := by rw [List.length_take]; omega
  omega
theorem sure_yes {f c : Int} {ws : List Sp} (h : chkT f ws = 0) (hc : 1 ≤ c ∧ c ≤ 16) : sureT f c ws = decide (sumS ws + (c - 1) * maxT ws < c * f + c) := by
  unfold sureT
  rw [decide_eq_true h, decide_eq_true hc, Bool.true_and, Bool.true_and]
theorem sure_core {f c : Int} {ws : List Sp} (hc : ¬ (1 ≤ c ∧ c ≤ 16)) : sureT f c ws = false := by
  unfold sureT
  rw [decide_eq_false hc, Bool.false_and, Bool.and_false]
theorem sure_chk {f c : Int} {ws : List Sp} (h : chkT f ws ≠ 0) : sureT f c ws = false := by
  unfold sureT
  rw [decide_eq_false h, Bool.false_and]

set_option maxRecDepth 100000 in
set_option maxHeartbeats 4000000 in
theorem sure_any (f c : Int) (v : Value) (ws : List Sp) (w : World) (h : SpansAt w v ws) (hi : IntsS ws) :
    Calls Tryz.prog 15 #[.int .i64 f, .int .i64 c, v] w (RetB (.bool (sureT f c ws)) w) := by
  by_cases hc1 : c < 1
  · have HR : Hid (sureT f c ws = false) := Lib.hid (sure_core (by omega))
    obtain ⟨A, d, rfl, _⟩ := h
    go_enter Tryz.func15, Tryz.ntmps15
    go_wp2
    go_ret
    exact ⟨by rw [HR.out]; rfl, Below.refl _ _⟩
  · by_cases hc2 : 16 < c
    · have HR : Hid (sureT f c ws = false) := Lib.hid (sure_core (by omega))
      obtain ⟨A, d, rfl, _⟩ := h
      go_enter Tryz.func15, Tryz.ntmps15
      go_wp2
      go_ret
      exact ⟨by rw [HR.out]; rfl, Below.refl _ _⟩
    · have HCK := Lib.hid (check_any f v ws w h hi)
      obtain ⟨E, hE⟩ : ∃ E, chkT f ws = E := ⟨_, rfl⟩
      rw [hE] at HCK
      by_cases he : E = 0
      · subst he
        obtain ⟨hf, hall, hk⟩ := chk_small hE
        have HALL := Lib.hid hall
        have HK := Lib.hid hk
        have HSU := Lib.hid (sure_yes (c := c) hE (by omega))
        rw [HSU.out]
        obtain ⟨hf1, hf2⟩ := hf
        obtain ⟨cf, hcf⟩ : ∃ cf, c * f = cf := ⟨_, rfl⟩
        have hcfb : 0 ≤ cf ∧ cf ≤ 1024 := by
          rw [← hcf]
          refine ⟨Int.mul_nonneg (by omega) (by omega), ?_⟩
          have := Int.mul_le_mul (a := c) (b := f) (c := 16) (d := 64) (by omega) (by omega) (by omega) (by omega)
          omega
        rw [hcf]
        obtain ⟨hcf0, hcf1⟩ := hcfb
        have HS := Lib.hid h
        obtain ⟨A, d, rfl, hd1, hd3, hd2, hat⟩ := h
        have HAT := Lib.hid hat
        obtain ⟨n, hn⟩ : ∃ n, ws.length = n := ⟨_, rfl⟩
        rw [hn] at HS HAT hd1 hd3 HCK ⊢
        have HN := Lib.hid hn
        have HCF := Lib.hid hcf
        clear hat hn hall hk hE hi hcf
        go_enter Tryz.func15, Tryz.ntmps15
        go_wp2_with fail
        refine HCK.out.mono ?_
        rintro e w1 ⟨rfl, hb1⟩
        have HB1 := Lib.hid hb1
        clear hb1
        go_wp2_with fail
        go_loopg [7, 8, 10, 25] n (fun gg s7 s8 _ s25 wr => ∃ (k : Nat) (t g : Int), k ≤ n ∧ gg = n - k ∧ s25 = .int .i64 k ∧ s7 = .int .i64 t ∧ s8 = .int .i64 g ∧ Hid (t = sumS (ws.take k)) ∧ Hid (g = maxT (ws.take k)) ∧ Below w1.heap.size w1 wr)
        case atStart => exact ⟨0, 0, 0, Nat.zero_le _, by omega, rfl, rfl, rfl, rfl, rfl, Below.refl _ _⟩
        case round =>
          obtain ⟨k, t, g, hkn, hgg, rfl, rfl, rfl, HT, HM, hbw⟩ := hrel
          have HG := Lib.hid hgg
          have HBW := Lib.hid hbw
          have HB := Lib.hid (HB1.out.trans (hbw.mono HB1.out.size))
          obtain ⟨⟨hs0, hs1⟩, hm0, hm1⟩ := HK.out k
          rw [← HT.out] at hs0 hs1
          rw [← HM.out] at hm0 hm1
          by_cases hlt : k < n
          · have hltz : (k : Int) < (n : Int) := by omega
            have hk0 : (0 : Int) ≤ (k : Int) := by omega
            obtain ⟨y, hy⟩ := ex_at (xs := ws) (k := k) (by rw [HN.out]; exact hlt)
            obtain ⟨b, off, hA, hbl, hcell⟩ := HAT.out (by omega)
            subst hA
            obtain ⟨c1, c2⟩ := (hcell k y hy).keep HB.out hbl
            have hy1 := HALL.out y (List.mem_of_getElem? hy)
            have HTN : Hid (t + y.2 = sumS (ws.take (k + 1))) := Lib.hid (by rw [sumS_snoc hy, HT.out])
            have HMN : Hid (max g y.2 = maxT (ws.take (k + 1))) := Lib.hid (by rw [List.take_add_one, hy, Option.toList_some, maxT_snoc _ _ hy1.1, HM.out])
            obtain ⟨y1, y2⟩ := y
            simp only at c1 c2 hy1 HTN HMN
            obtain ⟨yl, yu⟩ := hy1
            obtain ⟨t2, ht2⟩ : ∃ t2, t + y2 = t2 := ⟨_, rfl⟩
            have hw2 : IntKind.i64.wrap t2 = t2 := IntWalk.i64_in _ (by omega)
            rw [ht2] at HTN
            obtain ⟨w2, N, hw2', hN, hNl, hb2, hnb⟩ := box_any wr #[.int .i64 y1, .int .i64 y2] 45
            obtain ⟨n0, n1⟩ := two_heads hnb
            have HB2 := Lib.hid (HBW.out.trans (hb2.mono HBW.out.size))
            clear hcell hy hb2 hnb hgg hbw hs0 hs1
            go_wp2_with fail
            go_roundg (n - (k + 1))
            case measure => have := HG.out; omega
            case rel => exact ⟨k + 1, t2, max g y2, by omega, rfl, by go_num, rfl, rfl, HTN, HMN, HB2.out⟩
          · have hltz : ¬ (k : Int) < (n : Int) := by omega
            have hTK : ws.take k = ws := List.take_of_length_le (by rw [HN.out]; omega)
            have HT' := Lib.hid HT.out
            have HM' := Lib.hid HM.out
            rw [hTK] at HT' HM'
            obtain ⟨cg, hcg⟩ : ∃ cg, (c - 1) * g = cg := ⟨_, rfl⟩
            have hcgb : 0 ≤ cg ∧ cg ≤ 1024 := by
              rw [← hcg]
              refine ⟨Int.mul_nonneg (by omega) (by omega), ?_⟩
              have := Int.mul_le_mul (a := c - 1) (b := g) (c := 16) (d := 64) (by omega) (by omega) (by omega) (by omega)
              omega
            obtain ⟨hcg0, hcg1⟩ := hcgb
            have hcf := HCF.out
            have HFIN : Hid (decide (t < cf + c - cg) = decide (sumS ws + (c - 1) * maxT ws < cf + c)) := Lib.hid (by
              rw [← HM'.out, ← HT'.out, hcg]
              by_cases h : t < cf + c - cg
              · rw [decide_eq_true h, decide_eq_true (by omega)]
              · rw [decide_eq_false h, decide_eq_false (by omega)])
            clear hTK hgg hbw HM' HT'
            go_wp2_with fail
            go_ret
            refine ⟨?_, HB.out⟩
            rw [← HFIN.out]
            rfl
      · have HR : Hid (sureT f c ws = false) := Lib.hid (sure_chk (by rw [hE]; exact he))
        have hb0 : (E != 0) = true := by simpa using he
        clear he hE
        obtain ⟨A, d, rfl, _⟩ := h
        go_enter Tryz.func15, Tryz.ntmps15
        go_wp2_with fail
        refine HCK.out.mono ?_
        rintro e w1 ⟨rfl, hb1⟩
        have HB1 := Lib.hid hb1
        clear hb1
        go_wp2_with fail
        go_ret
        exact ⟨by rw [HR.out]; rfl, HB1.out⟩
end Go.Proofs.YtiadnpipbocecaaGreat
