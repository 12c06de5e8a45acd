/-
  A right plan is a light one; a plan's own block is none of its places'; three results, the first in a block.
  Conditions: none.
-/
import Derived.Test.YtpfpojehcjmfnaaM03
import Derived.Shelf.SlSortCmp.QuietGrown
import Derived.Shelf.SlGeneric
import Derived.Shelf.SlSortCmp.WholeK
import Derived.Ground.SlsfProg
import Derived.Test.YtpfpojehcjmfnaaProg
import Derived.Test.YtpfpojehcjmfnaaM19
import Derived.Shelf.SlSortCmp.NoneTotal
import Derived.Test.YtpfpojehcjmfnaaM10
import Derived.Test.YtpfpojehcjmfnaaM02
import Derived.Laws.Rows

/-
  cmp.Compare, cmp.Or, the program's compare and Ahead, the document's Ahead.
  Conditions: none.
-/
set_option linter.unusedVariables false
namespace Go.Proofs.Ytpfpojehcjmfnaa
open Go.RowKit Go.Sort

def orI (x y : Int) : Int := if x = 0 then y else x
theorem or_any (W : World) (b : Nat) (x y : Int) (c0 : W.cell? ⟨b, 0, none⟩ = some (.int .i64 x)) (c1 : W.cell? ⟨b, 1, none⟩ = some (.int .i64 y)) :
    Calls Try.prog 52 #[.slice (some ⟨b, 0, none⟩) 2 2] W (Ret (.int .i64 (orI x y)) W) := by
  by_cases hx : x = 0
  · by_cases hy : y = 0
    · have HR : Hid (orI x y = 0) := by show _ = _; unfold orI; rw [if_pos hx, hy]
      subst hx hy
      go_enter Try.func52, Try.ntmps52
      go_wp2_with fail
      go_loopg [5, 8] 2 (fun g _ s8 wr => wr = W ∧ ((g = 2 ∧ s8 = .int .i64 0) ∨ (g = 1 ∧ s8 = .int .i64 1) ∨ (g = 0 ∧ s8 = .int .i64 2)))
      case atStart => exact ⟨rfl, .inl ⟨rfl, rfl⟩⟩
      case round =>
        obtain ⟨hw, h | h | h⟩ := hrel
        · obtain ⟨rfl, rfl⟩ := h
          subst hw
          go_wp2_with fail
          go_roundg 1
          case measure => decide
          case rel => exact ⟨rfl, .inr (.inl ⟨rfl, by go_num⟩)⟩
        · obtain ⟨rfl, rfl⟩ := h
          subst hw
          go_wp2_with fail
          go_roundg 0
          case measure => decide
          case rel => exact ⟨rfl, .inr (.inr ⟨rfl, by go_num⟩)⟩
        · obtain ⟨rfl, rfl⟩ := h
          subst hw
          go_wp2
          go_ret
          exact ⟨ret_int HR.out.symm, rfl⟩
    · have HR : Hid (orI x y = y) := by show _ = _; unfold orI; rw [if_pos hx]
      subst hx
      have hyb : (y != 0) = true := by simpa using hy
      clear hy
      go_enter Try.func52, Try.ntmps52
      go_wp2_with fail
      go_loopg [5, 8] 2 (fun g _ s8 wr => wr = W ∧ ((g = 2 ∧ s8 = .int .i64 0) ∨ (g = 1 ∧ s8 = .int .i64 1)))
      case atStart => exact ⟨rfl, .inl ⟨rfl, rfl⟩⟩
      case round =>
        obtain ⟨hw, h | h⟩ := hrel
        · obtain ⟨rfl, rfl⟩ := h
          subst hw
          go_wp2_with fail
          go_roundg 1
          case measure => decide
          case rel => exact ⟨rfl, .inr ⟨rfl, by go_num⟩⟩
        · obtain ⟨rfl, rfl⟩ := h
          subst hw
          go_wp2
          go_ret
          exact ⟨ret_int HR.out.symm, rfl⟩
  · have HR : Hid (orI x y = x) := by show _ = _; unfold orI; rw [if_neg hx]
    have hxb : (x != 0) = true := by simpa using hx
    clear hx
    go_enter Try.func52, Try.ntmps52
    go_wp2_with fail
    go_loopg [5, 8] 2 (fun g _ s8 wr => wr = W ∧ (g = 2 ∧ s8 = .int .i64 0))
    case atStart => exact ⟨rfl, rfl, rfl⟩
    case round =>
      obtain ⟨hw, rfl, rfl⟩ := hrel
      subst hw
      go_wp2
      go_ret
      exact ⟨ret_int HR.out.symm, rfl⟩

/-- The order of the sort. -/
def cmpS (a b : Sp) : Int := orI (cmpI b.2 a.2) (cmpI a.1 b.1)
theorem cmpS_neg (a b : Sp) : decide (cmpS a b < 0) = aheadB a b := by
  unfold cmpS orI cmpI aheadB
  by_cases h1 : b.2 < a.2
  · simp [h1]
  · by_cases h2 : a.2 < b.2
    · simp [h1, h2]; omega
    · have e : a.2 = b.2 := by omega
      by_cases h3 : a.1 < b.1
      · simp [e, h3]
      · by_cases h4 : b.1 < a.1 <;> simp [e, h3, h4]

set_option maxRecDepth 100000 in
set_option maxHeartbeats 2000000 in
theorem compare_any (x y : Sp) (W : World) : Calls Try.prog 27 #[.agg #[.int .i64 x.1, .int .i64 x.2], .agg #[.int .i64 y.1, .int .i64 y.2]] W fun e w' => e = .returned (.int .i64 (cmpS x y)) ∧ ∃ q os', w' = grow (W.drewN q) os' := by
  have HC := Lib.hid (fun p q W => compareInt_any p q W)
  have HO := Lib.hid (fun W b x y c0 c1 => or_any W b x y c0 c1)
  have mixed : Try.prog.follows .mixedOrders = true := by kernel_rfl
  obtain ⟨x1, x2⟩ := x
  obtain ⟨y1, y2⟩ := y
  unfold cmpS
  simp only
  clear HC
  obtain ⟨cN, hcN⟩ : ∃ f : Int → Int → Int, cmpI = f := ⟨_, rfl⟩
  have HC : Hid (∀ p q W, Calls Try.prog 53 #[.int .i64 p, .int .i64 q] W (Ret (.int .i64 (cN p q)) W)) := by
    intro p q W; rw [← hcN]; exact compareInt_any p q W
  rw [hcN]
  clear hcN
  have HOW : Hid (Calls Try.prog 52 #[.slice (some ⟨W.heap.size + 1 + 1, 0, none⟩) 2 2] (((W.alloc (.cells #[.int .i64 x1, .int .i64 x2] 25)).alloc (.cells #[.int .i64 y1, .int .i64 y2] 25)).alloc (.cells #[.int .i64 (cN y2 x2), .int .i64 (cN x1 y1)] 3)).drew
      (Ret (.int .i64 (orI (cN y2 x2) (cN x1 y1))) (((W.alloc (.cells #[.int .i64 x1, .int .i64 x2] 25)).alloc (.cells #[.int .i64 y1, .int .i64 y2] 25)).alloc (.cells #[.int .i64 (cN y2 x2), .int .i64 (cN x1 y1)] 3)).drew)) :=
    HO.out _ _ _ _ (news_two _ (W.heap.size + 1 + 1) (by simp) 3 (cN y2 x2) (cN x1 y1) 0 _ rfl) (news_two _ (W.heap.size + 1 + 1) (by simp) 3 (cN y2 x2) (cN x1 y1) 1 _ rfl)
  generalize orI (cN y2 x2) (cN x1 y1) = rr at *
  clear HO
  go_enter Try.func27, Try.ntmps27
  go_wp2_with fail
  go_region_held3 (fun w' => w'.cell? ⟨W.heap.size, 0, none⟩ = some (.int .i64 x1) ∧ w'.cell? ⟨W.heap.size, 1, none⟩ = some (.int .i64 x2) ∧ w'.cell? ⟨W.heap.size + 1, 0, none⟩ = some (.int .i64 y1) ∧ w'.cell? ⟨W.heap.size + 1, 1, none⟩ = some (.int .i64 y2))
    (go_keep)
    (first
      | (go_at_call 53; refine (HC.out _ _ _).mono ?_; rintro e w' ⟨rfl, rfl⟩)
      | (go_at_call 52; refine HOW.out.mono ?_; rintro e w' ⟨rfl, rfl⟩))
  all_goals
    go_wp2
    go_ret
    exact ⟨rfl, 1, _, by rw [alloc_eq_grow, alloc_eq_grow, alloc_eq_grow, grow_grow, grow_grow]; rfl⟩
end Go.Proofs.Ytpfpojehcjmfnaa

/-
  DERIVED: THE SHELF's CONTRACTS AT THIS DUMP, IN PLAIN WORDS (tools/lay-plain.mjs out of 'TryShelf20sTry.lean', which tools/lay-shelf.mjs wrote): THE SAME DECLARATIONS UNDER THE SAME NAMES: 'import', 'namespace', 'open', 'def', 'theorem' AND NOTHING ELSE: no command of the shelf's: FOR A HAND-IN. Each laying: the table of numbers ('.._ren') and one theorem, a field a fact of the dump's own or the kernel's comparison; each contract: ONE APPLICATION.
-/
namespace Go.Proofs
open Go.Shelf
def Try.sort5_ren : Go.Shelf.Ren := ⟨fun | 6 => 26 | 15 => 51 | 14 => 50 | 28 => 82 | 29 => 83 | 20 => 74 | 21 => 75 | 22 => 76 | 23 => 77 | 24 => 78 | 25 => 79 | 26 => 80 | 27 => 81 | 46 => 91 | 47 => 92 | 48 => 93 | 49 => 94 | 50 => 95 | 57 => 98 | n => n, fun | 22 => 23 | 24 => 25 | 25 => 66 | 3 => 3 | 39 => 88 | 0 => 0 | 53 => 22 | 55 => 46 | 4 => 4 | 46 => 115 | 45 => 114 | 50 => 53 | 5 => 5 | 9 => 9 | 66 => 123 | 70 => 127 | 76 => 130 | 77 => 131 | n => n, fun | n => n⟩
theorem Try.sort5 : Go.Proofs.SlLaysF0.n6 Try.prog Try.sort5_ren := {
  mixed := by kernel_rfl
  f6 := ⟨Try.f26.name, by decide, Try.func26.trans (congrArg some (by kernel_rfl))⟩
  f14 := ⟨Try.f50.name, by decide, Try.func50.trans (congrArg some (by kernel_rfl))⟩
  f15 := Try.func51.trans (congrArg some (by kernel_rfl))
  f20 := ⟨Try.f74.name, by decide, Try.func74.trans (congrArg some (by kernel_rfl))⟩
  f21 := ⟨Try.f75.name, by decide, Try.func75.trans (congrArg some (by kernel_rfl))⟩
  f22 := ⟨Try.f76.name, by decide, Try.func76.trans (congrArg some (by kernel_rfl))⟩
  f23 := ⟨Try.f77.name, by decide, Try.func77.trans (congrArg some (by kernel_rfl))⟩
  f24 := ⟨Try.f78.name, by decide, Try.func78.trans (congrArg some (by kernel_rfl))⟩
  f25 := ⟨Try.f79.name, by decide, Try.func79.trans (congrArg some (by kernel_rfl))⟩
  f26 := ⟨Try.f80.name, by decide, Try.func80.trans (congrArg some (by kernel_rfl))⟩
  f27 := ⟨Try.f81.name, by decide, Try.func81.trans (congrArg some (by kernel_rfl))⟩
  f28 := Try.func82.trans (congrArg some (by kernel_rfl))
  f29 := Try.func83.trans (congrArg some (by kernel_rfl))
  f46 := ⟨Try.f91.name, by decide, Try.func91.trans (congrArg some (by kernel_rfl))⟩
  f47 := Try.func92.trans (congrArg some (by kernel_rfl))
  f48 := Try.func93.trans (congrArg some (by kernel_rfl))
  f49 := ⟨Try.f94.name, by decide, Try.func94.trans (congrArg some (by kernel_rfl))⟩
  f50 := ⟨Try.f95.name, by decide, Try.func95.trans (congrArg some (by kernel_rfl))⟩
  f57 := ⟨Try.f98.name, by decide, Try.func98.trans (congrArg some (by kernel_rfl))⟩
  t0 := Try.underlying0
  a0 := Try.isAgg0
  z0 := Try.sizeOf0
  v0 := Try.zeroValue0
  t3 := Try.underlying3
  a3 := Try.isAgg3
  z3 := Try.sizeOf3
  v3 := Try.zeroValue3
  t4 := Try.underlying4
  a4 := Try.isAgg4
  z4 := Try.sizeOf4
  v4 := Try.zeroValue4
  t5 := Try.underlying5
  a5 := Try.isAgg5
  z5 := Try.sizeOf5
  v5 := Try.zeroValue5
  t9 := Try.underlying9
  a9 := Try.isAgg9
  z9 := Try.sizeOf9
  v9 := Try.zeroValue9
  t22 := Try.underlying23
  a22 := Try.isAgg23
  z22 := Try.sizeOf23
  v22 := Try.zeroValue23
  t25 := Try.underlying66
  a25 := Try.isAgg66
  z25 := Try.sizeOf66
  v25 := Try.zeroValue66
  t39 := Try.underlying88
  a39 := Try.isAgg88
  z39 := Try.sizeOf88
  v39 := Try.zeroValue88
  t45 := Try.underlying114
  a45 := Try.isAgg114
  z45 := Try.sizeOf114
  v45 := Try.zeroValue114
  t46 := Try.underlying115
  a46 := Try.isAgg115
  z46 := Try.sizeOf115
  v46 := Try.zeroValue115
  t50 := Try.underlying53
  a50 := Try.isAgg53
  z50 := Try.sizeOf53
  v50 := Try.zeroValue53
  t53 := Try.underlying22
  a53 := Try.isAgg22
  z53 := Try.sizeOf22
  v53 := Try.zeroValue22
  t55 := Try.underlying46
  a55 := Try.isAgg46
  z55 := Try.sizeOf46
  v55 := Try.zeroValue46
  t66 := Try.underlying123
  a66 := Try.isAgg123
  z66 := Try.sizeOf123
  v66 := Try.zeroValue123
  t70 := Try.underlying127
  a70 := Try.isAgg127
  z70 := Try.sizeOf127
  v70 := Try.zeroValue127
  t76 := Try.underlying130
  a76 := Try.isAgg130
  z76 := Try.sizeOf130
  v76 := Try.zeroValue130
  t77 := Try.underlying131
  a77 := Try.isAgg131
  z77 := Try.sizeOf131
  v77 := Try.zeroValue131 }
end Go.Proofs

/-
  slices.SortFunc of wants by compare; Sort of the program.
  Conditions: the row is of the caller's own.
-/
set_option linter.unusedVariables false
namespace Go.Proofs.Ytpfpojehcjmfnaa
open Go.RowKit Go.Sort Go.Lib

theorem flat_spans (ps : List Sp) : flatK spanCells 2 ps.toArray = (spansCells ps).toArray := by
  apply Array.ext
  · simp [spansCells_length]
  · intro t h1 h2
    have ht : t < ps.length * 2 := by simpa [spansCells_length] using h2
    have hj : t / 2 < ps.length := by omega
    obtain ⟨g1, g2⟩ := spansCells_get ps (t / 2) _ (List.getElem?_eq_getElem hj)
    have e0 : (flatK spanCells 2 ps.toArray)[t]'h1 = (flatK spanCells 2 ps.toArray)[t]! := (getElem!_pos _ t h1).symm
    rw [e0, get_flatK _ _ _ _ (by simpa using ht)]
    have e1 : ps.toArray[t / 2]! = ps[t / 2] := by rw [getElem!_pos ps.toArray (t / 2) (by simpa using hj)]; simp
    rw [e1]
    have e2 : ((spansCells ps).toArray)[t]'h2 = (spansCells ps)[t]'(by simpa using h2) := by simp
    rw [e2]
    rcases Nat.mod_two_eq_zero_or_one t with h | h
    · rw [h]
      have : t / 2 * 2 = t := by omega
      rw [this] at g1
      have := (List.getElem?_eq_some_iff.1 g1).2
      rw [this]; rfl
    · rw [h]
      have : t / 2 * 2 + 1 = t := by omega
      rw [this] at g2
      have := (List.getElem?_eq_some_iff.1 g2).2
      rw [this]; rfl

theorem heap_put {w : World} {g n e : Nat} {os : Array Obj} {cur F : Array Value} (h : w.heap[g]? = some (.cells cur e (0, 0))) :
    (grow (putRow id (Sort.ahead w n) g 0 F) os).heap[g]? = some (.cells (putCells id 0 F cur) e (0, 0)) := by
  have hlt : g < w.heap.size := (Array.getElem?_eq_some_iff.1 h).1
  unfold grow putRow mapBlock Sort.ahead
  show ((w.heap.modify g _) ++ os)[g]? = _
  rw [Array.getElem?_append_left (by simpa using hlt), Array.getElem?_modify, if_pos rfl, h]
  rfl
theorem take_put (cur : Array Value) (F : List Value) (h : F.length ≤ cur.size) : (putCells id 0 F.toArray cur).toList.take F.length = F := by
  apply List.ext_getElem?
  intro j
  by_cases hj : j < F.length
  · rw [List.getElem?_take_of_lt hj, Array.getElem?_toList]
    simp [putCells, hj, show j < cur.size by omega]
  · rw [List.getElem?_take_eq_none (by omega), List.getElem?_eq_none (by omega)]
theorem below_put {w : World} {base g n : Nat} {os : Array Obj} {F : Array Value} (hg : base ≤ g) (hb : base ≤ w.heap.size) : Below base w (grow (putRow id (Sort.ahead w n) g 0 F) os) := by
  refine ⟨rfl, rfl, rfl, ?_, fun k hk => ?_⟩
  · simp [grow, putRow, mapBlock, Sort.ahead]
  · unfold grow putRow mapBlock Sort.ahead
    show ((w.heap.modify g _) ++ os)[k]? = _
    rw [Array.getElem?_append_left (by simp; omega), Array.getElem?_modify, if_neg (by omega)]

theorem ltS (x y : Sp) : ltOf cmpS x y = aheadB x y := cmpS_neg x y
theorem swoS : SWO (ltOf cmpS) where
  irrefl x := by rw [ltS]; exact ahead_irr x
  trans x y z h1 h2 := by rw [ltS] at *; exact ahead_trans h1 h2
  ntrans x y z h1 h2 := by rw [ltS] at *; rw [ahead_no] at *; omega

theorem sortFunc_any (base : Nat) (v : Value) (ps : List Sp) (w : World) (h : w.ownsRow base 25 2 v ps.length (spansCells ps)) (hl : ps.length ≤ 2000000) (hbase : base ≤ w.heap.size) :
    Calls Try.prog 26 #[v, .func (.func 27) #[] #[]] w
      (fun e w' => e = .returned (.tuple #[]) ∧ w'.ownsRow base 25 2 v ps.length (spansCells (sortT ps)) ∧ Below base w w') := by
  rcases Nat.eq_zero_or_pos ps.length with h0 | hpos
  · have : ps = [] := List.eq_nil_of_length_eq_zero h0
    subst this
    have hv : ∃ p cap, v = .slice p 0 cap := by
      rcases h.2 with ⟨h1, _⟩ | ⟨g, cap, cur, h1, _⟩
      · exact ⟨_, _, h1⟩
      · exact ⟨_, _, h1⟩
    obtain ⟨p, cap, rfl⟩ := hv
    refine (AnyF.slices_SortFunc_none Try.sort5 p cap _ w).mono ?_
    rintro e w' ⟨rfl, rfl⟩
    exact ⟨rfl, h, Below.refl _ _⟩
  · obtain ⟨g, cap, rfl, hbg, hgl, hncap, hcm, hat, hfr⟩ := own_lies h hpos
    have eg : ∀ args w, (callFunc 27 args).run Try.prog w = .ok (.enter 27 args) w := enters_of Try.func27 (by kernel_rfl) rfl
    have hH : HoldsK spanCells 2 w g 0 ps.toArray := by
      unfold HoldsK
      rw [flat_spans]
      intro j hj
      have hj' : j < ps.length * 2 := by simpa [spansCells_length] using hj
      rw [Nat.zero_add]
      refine ⟨?_, hfr j hj'⟩
      have := spansCells_of (W := w) (b := g) (off := 0) (ps := ps) (fun i p hp => by rw [Nat.zero_add]; exact hat i p hp) j ((spansCells ps)[j]'(by rw [spansCells_length]; exact hj')) (List.getElem?_eq_getElem _)
      rw [Nat.zero_add] at this
      rw [this]
      congr 1
      rw [getElem!_pos _ j hj]
      simp
    have hcon := AnyQ.slices_SortFunc Try.sort5 2 Try.isAgg25 Try.sizeOf25 spanCells (fun _ => rfl) (fun x v hv => by simp [spanCells] at hv; rcases hv with rfl | rfl <;> rfl) cmpS swoS 27 #[] g 0 cap ps.toArray w eg
      (fun m os dk hs x y => compare_any x y _) hH hgl (by simp; omega)
    have hsz : ps.toArray.size = ps.length := by simp
    rw [hsz] at hcon
    refine Calls.mono hcon ?_
    rintro e w' ⟨rfl, d', n, os, hp, hs, rfl⟩
    obtain ⟨p1, p2, p3⟩ := hp
    have hlen : d'.toList.length = ps.length := by rw [Array.length_toList, p1, hsz]
    have hper : d'.toList.Perm ps := by
      have e1 : (d'.extract 0 ps.length).toList = d'.toList := by rw [← hlen]; simp
      have e2 : (ps.toArray.extract 0 ps.length).toList = ps := by simp
      rw [e1, e2] at p3
      exact p3
    have hsor : SortedS d'.toList := by
      unfold SortedS
      rw [List.pairwise_iff_getElem]
      intro i j hi hj hij
      have := hs i j (Nat.zero_le _) hij (by omega)
      rw [ltS] at this
      have e1 : d'[i]! = d'.toList[i] := by rw [getElem!_pos d' i (by rw [← Array.length_toList]; exact hi)]; simp
      have e2 : d'[j]! = d'.toList[j] := by rw [getElem!_pos d' j (by rw [← Array.length_toList]; exact hj)]; simp
      rw [e1, e2] at this
      simpa using this
    have hse : d'.toList = sortT ps := sort_eq hsor hper
    refine ⟨rfl, ?_, ?_⟩
    · obtain ⟨h1, h2⟩ := h
      rcases h2 with ⟨h2, _⟩ | ⟨g', cap', cur, hv, hg, hh, hn, hc, hs', ht⟩
      · cases h2
      · injection hv with e1 e2 e3
        injection e1 with e1
        injection e1 with e1
        subst e1 e3
        rw [← hse]
        have hF : (flatK spanCells 2 d') = (spansCells d'.toList).toArray := by
          have := flat_spans d'.toList
          simpa using this
        refine ⟨by rw [spansCells_length, hlen], .inr ⟨g, cap, _, rfl, hbg, heap_put hh, hn, hc, by simp [putCells, hs'], ?_⟩⟩
        rw [hF]
        have hl2 : (spansCells d'.toList).length = ps.length * 2 := by rw [spansCells_length, hlen]
        rw [← hl2]
        exact take_put cur _ (by rw [hl2, hs']; omega)
    · exact below_put hbg hbase

/-- Sort of the program. -/
theorem sort_any (v : Value) (ps : List Sp) (w : World) (h : SpansAt w v ps) :
    Calls Try.prog 15 #[v] w (RetO w.heap.size 25 (sortT ps) w) := by
  have HL := Lib.hid h.len
  have HC := Lib.hid (clone_any v ps w h)
  clear h
  go_enter Try.func15, Try.ntmps15
  go_wp2_with fail
  refine HC.out.mono ?_
  rintro e w1 ⟨v1, rfl, hown1, hb1⟩
  have HS := Lib.hid (sortFunc_any w.heap.size v1 ps w1 hown1 HL.out hb1.size)
  have HB1 := Lib.hid hb1
  clear hown1 hb1
  go_wp2_with fail
  refine HS.out.mono ?_
  rintro e w2 ⟨rfl, hown2, hb2⟩
  have HB2 := Lib.hid (HB1.out.trans hb2)
  have HO2 := Lib.hid hown2
  clear hown2 hb2
  go_wp2
  go_ret
  refine ⟨_, rfl, ?_, HB2.out⟩
  rw [sortT_length]
  exact HO2.out
end Go.Proofs.Ytpfpojehcjmfnaa

/-
  A right plan is a light one; a plan's own block is none of its places'; three results, the first in a block.
  Conditions: none.
-/
set_option linter.unusedVariables false
namespace Go.Proofs.Ytpfpojehcjmfnaa
open Go.RowKit

theorem Right.light {f : Int} {m : Nat} {l : List Pl} (h : Right f m l) (hw : WideL l) : LightL l := by
  refine ⟨?_, hw.ok⟩
  have h1 : (l.map fun y => idxU y.u).length ≤ 240 := by
    refine nodup_lt 240 _ ?_ ?_
    · rw [List.Nodup, List.pairwise_iff_getElem]
      intro i j hi hj hij he
      rw [List.length_map] at hi hj
      rw [List.getElem_map, List.getElem_map] at he
      obtain ⟨d, rfl⟩ : ∃ d, j = i + d + 1 := ⟨j - i - 1, by omega⟩
      have h2 := h.rises d i _ _ (List.getElem?_eq_getElem hi) (List.getElem?_eq_getElem hj)
      have h3 := idxU_inj (h.place _ (List.getElem_mem hi)).unit (h.place _ (List.getElem_mem hj)).unit he
      omega
    · intro x hx
      obtain ⟨y, hy, rfl⟩ := List.mem_map.1 hx
      exact idxU_lt (h.place y hy).unit
  rw [List.length_map] at h1
  omega

/-! ### A plan's own block is none of its places' -/
theorem pn_cell {W : World} {R : Nat} {f : Int} {M : Nat} {v : Value} {T : TypeId} (h : W.heap[R]? = some (.cells #[.int .i64 f, .int .u32 (M : Int), v] T (0, 0))) (o : Nat) :
    W.cell? ⟨R, o, none⟩ = (#[.int .i64 f, .int .u32 (M : Int), v] : Array Value)[o]? := by
  simp [World.cell?, h]
theorem pcs_not {F : Nat → Prop} {W : World} {R : Nat} {f : Int} {M : Nat} {v u : Value} {T : TypeId} (h : W.heap[R]? = some (.cells #[.int .i64 f, .int .u32 (M : Int), v] T (0, 0))) {ps : List Pc} (hp : PcsIn F W u ps) : PcsIn (fun b => F b ∧ b ≠ R) W u ps := by
  obtain ⟨A, c, e, h1, h2, h3⟩ := hp
  refine ⟨A, c, e, h1, h2, fun hn => ?_⟩
  obtain ⟨b, off, e2, hb, hF, hc⟩ := h3 hn
  refine ⟨b, off, e2, hb, ⟨hF, ?_⟩, hc⟩
  rintro rfl
  obtain ⟨y, hy⟩ := exP_at (xs := ps) (k := 0) hn
  obtain ⟨g0, g1⟩ := hc 0 y hy
  rw [pn_cell h] at g0 g1
  rcases off with _ | _ | _ | off <;> simp at g0 g1
theorem pls_not {F : Nat → Prop} {W : World} {R : Nat} {f : Int} {M : Nat} {v u : Value} {T : TypeId} (h : W.heap[R]? = some (.cells #[.int .i64 f, .int .u32 (M : Int), v] T (0, 0))) {l : List Pl} (hp : PlsIn F W u l) : PlsIn (fun b => F b ∧ b ≠ R) W u l := by
  obtain ⟨ls, rfl, A, c, e, h1, h2, h3, h4⟩ := hp
  refine ⟨ls, rfl, A, c, e, h1, h2, fun hn => ?_, fun p hp => pcs_not h (h4 p hp)⟩
  obtain ⟨b, off, e2, hb, hF, hc⟩ := h3 hn
  refine ⟨b, off, e2, hb, ⟨hF, ?_⟩, hc⟩
  rintro rfl
  obtain ⟨y, hy⟩ := exP_at (xs := ls) (k := 0) hn
  obtain ⟨g0, g1, _⟩ := hc 0 y hy
  rw [pn_cell h] at g0 g1
  rcases off with _ | _ | _ | off <;> simp at g0 g1

theorem results_row_tmp2 {P : Program} {fn : Func} {p u v : Tmp} {ty : TypeId} (h : fn.results = #[.cell p ty, .tmp u, .tmp v]) (tmps : Array Value) (w : World) (g : Nat) (t : TypeId) (cs : Array Value) (fr : Nat × Nat) (d : TypeDesc)
    (hp : tmps.getD p undef = .pointer (some ⟨g, 0, none⟩)) (hg : w.heap[g]? = some (.cells cs t fr))
    (hu : P.underlying ty = some d) (hd : (match d with | .struct _ | .array _ _ => true | _ => false) = true) (hi : (P.info? ty).map (·.size) = some cs.size) (x y : Value) (hx : tmps.getD u undef = x) (hy : tmps.getD v undef = y) :
    (results fn tmps).run P w = .ok (.tuple #[.agg cs, x, y]) w := by
  have e : (results fn tmps).run P w = ((asAddr (tmps.getD p undef)).run P w).andThen fun a w₁ => ((loadVar ty a).run P w₁).andThen fun v' w₂ => .ok (.tuple #[v', tmps.getD u undef, tmps.getD v undef]) w₂ := by
    simp only [results, h]
    simp [Sem.run_bind, Result.andThen]
  rw [e, hp, hx, hy]
  simp [asAddr, run_loadVar_row w g t ty cs fr d hg hu hd hi, Result.andThen]
end Go.Proofs.Ytpfpojehcjmfnaa
