/-
  join of the program: the plan of tables, if there is one.
  Conditions: the slice reads as tables; they are not too many.
-/
import Derived.Shelf.SlGeneric
import Derived.Shelf.SlSortCmp.WholeK
import Derived.Ground.SlsfProg
import Derived.Test.YtpjmdnhoiobedaaProg
import Derived.Test.YtpjmdnhoiobedaaBackA
import Derived.Test.YtpjmdnhoiobedaaOrdCmp
import Derived.Shelf.SlSortCmp.NoneTotal
import Derived.Laws.BitsAllLaws

/-
  DERIVED: THE SHELF's CONTRACTS AT THIS DUMP, IN PLAIN WORDS (tools/lay-plain.mjs out of 'TryShelf17.lean', which tools/lay-shelf.mjs wrote): THE SAME DECLARATIONS UNDER THE SAME NAMES: 'import', 'namespace', 'open', 'def', 'theorem' AND NOTHING ELSE: no command of the shelf's: FOR A HAND-IN. Each laying: the table of numbers ('.._ren') and one theorem, a field a fact of the dump's own or the kernel's comparison; each contract: ONE APPLICATION.
-/
namespace Go.Proofs
open Go.Shelf
def Try.sort5_ren : Go.Shelf.Ren := ⟨fun | 6 => 54 | 15 => 76 | 14 => 75 | 28 => 90 | 29 => 91 | 20 => 82 | 21 => 83 | 22 => 84 | 23 => 85 | 24 => 86 | 25 => 87 | 26 => 88 | 27 => 89 | 46 => 97 | 47 => 98 | 48 => 99 | 49 => 100 | 50 => 101 | 57 => 103 | n => n, fun | 22 => 23 | 24 => 56 | 25 => 92 | 3 => 3 | 39 => 105 | 0 => 0 | 53 => 22 | 55 => 59 | 4 => 4 | 46 => 115 | 45 => 114 | 50 => 46 | 5 => 5 | 9 => 9 | 66 => 124 | 70 => 128 | 76 => 131 | 77 => 132 | n => n, fun | n => n⟩
theorem Try.sort5 : Go.Proofs.SlLaysF0.n6 Try.prog Try.sort5_ren := {
  mixed := by kernel_rfl
  f6 := ⟨Try.f54.name, by decide, Try.func54.trans (congrArg some (by kernel_rfl))⟩
  f14 := ⟨Try.f75.name, by decide, Try.func75.trans (congrArg some (by kernel_rfl))⟩
  f15 := Try.func76.trans (congrArg some (by kernel_rfl))
  f20 := ⟨Try.f82.name, by decide, Try.func82.trans (congrArg some (by kernel_rfl))⟩
  f21 := ⟨Try.f83.name, by decide, Try.func83.trans (congrArg some (by kernel_rfl))⟩
  f22 := ⟨Try.f84.name, by decide, Try.func84.trans (congrArg some (by kernel_rfl))⟩
  f23 := ⟨Try.f85.name, by decide, Try.func85.trans (congrArg some (by kernel_rfl))⟩
  f24 := ⟨Try.f86.name, by decide, Try.func86.trans (congrArg some (by kernel_rfl))⟩
  f25 := ⟨Try.f87.name, by decide, Try.func87.trans (congrArg some (by kernel_rfl))⟩
  f26 := ⟨Try.f88.name, by decide, Try.func88.trans (congrArg some (by kernel_rfl))⟩
  f27 := ⟨Try.f89.name, by decide, Try.func89.trans (congrArg some (by kernel_rfl))⟩
  f28 := Try.func90.trans (congrArg some (by kernel_rfl))
  f29 := Try.func91.trans (congrArg some (by kernel_rfl))
  f46 := ⟨Try.f97.name, by decide, Try.func97.trans (congrArg some (by kernel_rfl))⟩
  f47 := Try.func98.trans (congrArg some (by kernel_rfl))
  f48 := Try.func99.trans (congrArg some (by kernel_rfl))
  f49 := ⟨Try.f100.name, by decide, Try.func100.trans (congrArg some (by kernel_rfl))⟩
  f50 := ⟨Try.f101.name, by decide, Try.func101.trans (congrArg some (by kernel_rfl))⟩
  f57 := ⟨Try.f103.name, by decide, Try.func103.trans (congrArg some (by kernel_rfl))⟩
  t0 := Try.underlying0
  a0 := Try.isAgg0
  z0 := Try.sizeOf0
  v0 := Try.zeroValue0
  t3 := Try.underlying3
  a3 := Try.isAgg3
  z3 := Try.sizeOf3
  v3 := Try.zeroValue3
  t4 := Try.underlying4
  a4 := Try.isAgg4
  z4 := Try.sizeOf4
  v4 := Try.zeroValue4
  t5 := Try.underlying5
  a5 := Try.isAgg5
  z5 := Try.sizeOf5
  v5 := Try.zeroValue5
  t9 := Try.underlying9
  a9 := Try.isAgg9
  z9 := Try.sizeOf9
  v9 := Try.zeroValue9
  t22 := Try.underlying23
  a22 := Try.isAgg23
  z22 := Try.sizeOf23
  v22 := Try.zeroValue23
  t25 := Try.underlying92
  a25 := Try.isAgg92
  z25 := Try.sizeOf92
  v25 := Try.zeroValue92
  t39 := Try.underlying105
  a39 := Try.isAgg105
  z39 := Try.sizeOf105
  v39 := Try.zeroValue105
  t45 := Try.underlying114
  a45 := Try.isAgg114
  z45 := Try.sizeOf114
  v45 := Try.zeroValue114
  t46 := Try.underlying115
  a46 := Try.isAgg115
  z46 := Try.sizeOf115
  v46 := Try.zeroValue115
  t50 := Try.underlying46
  a50 := Try.isAgg46
  z50 := Try.sizeOf46
  v50 := Try.zeroValue46
  t53 := Try.underlying22
  a53 := Try.isAgg22
  z53 := Try.sizeOf22
  v53 := Try.zeroValue22
  t55 := Try.underlying59
  a55 := Try.isAgg59
  z55 := Try.sizeOf59
  v55 := Try.zeroValue59
  t66 := Try.underlying124
  a66 := Try.isAgg124
  z66 := Try.sizeOf124
  v66 := Try.zeroValue124
  t70 := Try.underlying128
  a70 := Try.isAgg128
  z70 := Try.sizeOf128
  v70 := Try.zeroValue128
  t76 := Try.underlying131
  a76 := Try.isAgg131
  z76 := Try.sizeOf131
  v76 := Try.zeroValue131
  t77 := Try.underlying132
  a77 := Try.isAgg132
  z77 := Try.sizeOf132
  v77 := Try.zeroValue132 }
end Go.Proofs

/-
  slices.SortFunc of places by their units.
  Conditions: the places lie in a row of the caller's own.
-/
set_option linter.unusedVariables false
namespace Go.Proofs.Ytpjmdnhoiobedaa
open Go.RowKit Go.Sort Go.Lib

theorem flat_rp (l : List Rp) : flatK rpCells 4 l.toArray = (rowP l).toArray := by
  apply Array.ext
  · simp [rowP_length]
  · intro t h1 h2
    have ht : t < l.length * 4 := by simpa [rowP_length] using h2
    have hj : t / 4 < l.length := by omega
    obtain ⟨g1, g2, g3, g4⟩ := rowP_get l (t / 4) _ (List.getElem?_eq_getElem hj)
    have e0 : (flatK rpCells 4 l.toArray)[t]'h1 = (flatK rpCells 4 l.toArray)[t]! := (getElem!_pos _ t h1).symm
    rw [e0, get_flatK _ _ _ _ (by simpa using ht)]
    have e1 : l.toArray[t / 4]! = l[t / 4] := by rw [getElem!_pos l.toArray (t / 4) (by simpa using hj)]; simp
    rw [e1]
    have e2 : ((rowP l).toArray)[t]'h2 = (rowP l)[t]'(by simpa using h2) := by simp
    rw [e2]
    have h3 : t % 4 = 0 ∨ t % 4 = 1 ∨ t % 4 = 2 ∨ t % 4 = 3 := by omega
    rcases h3 with h | h | h | h
    · rw [h]
      have : t / 4 * 4 = t := by omega
      rw [this] at g1
      have := (List.getElem?_eq_some_iff.1 g1).2
      rw [this]; rfl
    · rw [h]
      have : t / 4 * 4 + 1 = t := by omega
      rw [this] at g2
      have := (List.getElem?_eq_some_iff.1 g2).2
      rw [this]; rfl
    · rw [h]
      have : t / 4 * 4 + 2 = t := by omega
      rw [this] at g3
      have := (List.getElem?_eq_some_iff.1 g3).2
      rw [this]; rfl
    · rw [h]
      have : t / 4 * 4 + 3 = t := by omega
      rw [this] at g4
      have := (List.getElem?_eq_some_iff.1 g4).2
      rw [this]; rfl

theorem heap_put {w : World} {g n e : Nat} {os : Array Obj} {cur F : Array Value} (h : w.heap[g]? = some (.cells cur e (0, 0))) :
    (grow (putRow id (Sort.ahead w n) g 0 F) os).heap[g]? = some (.cells (putCells id 0 F cur) e (0, 0)) := by
  have hlt : g < w.heap.size := (Array.getElem?_eq_some_iff.1 h).1
  unfold grow putRow mapBlock Sort.ahead
  show ((w.heap.modify g _) ++ os)[g]? = _
  rw [Array.getElem?_append_left (by simpa using hlt), Array.getElem?_modify, if_pos rfl, h]
  rfl
theorem take_put (cur : Array Value) (F : List Value) (h : F.length ≤ cur.size) : (putCells id 0 F.toArray cur).toList.take F.length = F := by
  apply List.ext_getElem?
  intro j
  by_cases hj : j < F.length
  · rw [List.getElem?_take_of_lt hj, Array.getElem?_toList]
    simp [putCells, hj, show j < cur.size by omega]
  · rw [List.getElem?_take_eq_none (by omega), List.getElem?_eq_none (by omega)]
theorem apart_put {w : World} {g n : Nat} {os : Array Obj} {F : Array Value} : Apart (fun b => b = g) w (grow (putRow id (Sort.ahead w n) g 0 F) os) := by
  refine ⟨rfl, rfl, rfl, ?_, fun k hk hn => ?_⟩
  · simp [grow, putRow, mapBlock, Sort.ahead]
  · unfold grow putRow mapBlock Sort.ahead
    show ((w.heap.modify g _) ++ os)[k]? = _
    rw [Array.getElem?_append_left (by simp; omega), Array.getElem?_modify, if_neg (fun e => hn e.symm)]
theorem Apart.weaken {F G : Nat → Prop} {w w' : World} (h : Apart F w w') (hg : ∀ b, F b → G b) : Apart G w w' := ⟨h.os, h.tape, h.output, h.size, fun k hk hn => h.block k hk fun hf => hn (hg k hf)⟩
theorem own4_lies {W : World} {base e : Nat} {v : Value} {l : List Rp} (h : W.ownsRow base e 4 v l.length (rowP l)) (hp : 0 < l.length) :
    ∃ g cap, v = .slice (some ⟨g, 0, none⟩) l.length cap ∧ base ≤ g ∧ g < W.heap.size ∧ l.length ≤ cap ∧ cap ≤ maxLen ∧ ∀ j, W.frozen? ⟨g, j, none⟩ = false := by
  obtain ⟨h1, h2⟩ := h
  rcases h2 with ⟨rfl, h0⟩ | ⟨g, cap, cur, rfl, hg, hh, hn, hc, hs, ht⟩
  · omega
  · exact ⟨g, cap, rfl, hg, heap_lt hh, hn, hc, fun j => by simp [World.frozen?, hh]⟩

def RiseR (l : List Rp) : Prop := l.Pairwise fun a b => a.2.u ≤ b.2.u
def cmpP (x y : Rp) : Int := cmpI x.2.u y.2.u
theorem ltP (x y : Rp) : ltOf cmpP x y = decide (x.2.u < y.2.u) := by
  show decide (cmpI x.2.u y.2.u < 0) = _
  unfold cmpI
  by_cases h : x.2.u < y.2.u
  · rw [if_pos h, decide_eq_true h]; rfl
  · rw [if_neg h, decide_eq_false h]
    split <;> rfl
theorem swoP : SWO (ltOf cmpP) where
  irrefl x := by rw [ltP]; exact decide_eq_false (Int.lt_irrefl _)
  trans x y z h1 h2 := by rw [ltP] at *; have := of_decide_eq_true h1; have := of_decide_eq_true h2; exact decide_eq_true (by omega)
  ntrans x y z h1 h2 := by rw [ltP] at *; have := of_decide_eq_false h1; have := of_decide_eq_false h2; exact decide_eq_false (by omega)
theorem cmpP_any (x y : Rp) (W : World) : Calls Try.prog 55 #[.agg (rpCells x).toArray, .agg (rpCells y).toArray] W fun e w' => e = .returned (.int .i64 (cmpP x y)) ∧ ∃ q os', w' = grow (W.drewN q) os' := by
  have HC := Lib.hid (fun W => compareInt_any x.2.u y.2.u W)
  unfold cmpP
  obtain ⟨⟨A1, c1⟩, x1, x2, x3, x4⟩ := x
  obtain ⟨⟨B1, d1⟩, y1, y2, y3, y4⟩ := y
  simp only [rpCells, rpV] at *
  generalize cmpI x1 y1 = r at *
  go_enter Try.func55, Try.ntmps55
  go_wp2_with (go_at_call 56; refine (HC.out _).mono ?_; rintro e w1 ⟨rfl, rfl⟩)
  go_ret
  exact ⟨rfl, 0, _, by rw [alloc_eq_grow, alloc_eq_grow, grow_grow]; rfl⟩

theorem sortPl_any (base : Nat) (v : Value) (l : List Rp) (w : World) (h : w.ownsRow base 56 4 v l.length (rowP l)) (hl : l.length ≤ 2000000) (hbase : base ≤ w.heap.size) :
    Calls Try.prog 54 #[v, .func (.func 55) #[] #[]] w
      (fun e w' => e = .returned (.tuple #[]) ∧ ∃ l', l'.Perm l ∧ RiseR l' ∧ w'.ownsRow base 56 4 v l'.length (rowP l') ∧ Apart (fun b => v.ownBlock = some b) w w') := by
  rcases Nat.eq_zero_or_pos l.length with h0 | hpos
  · have : l = [] := List.eq_nil_of_length_eq_zero h0
    subst this
    have hv : ∃ p cap, v = .slice p 0 cap := by
      rcases h.2 with ⟨h1, _⟩ | ⟨g, cap, cur, h1, _⟩
      · exact ⟨_, _, h1⟩
      · exact ⟨_, _, h1⟩
    obtain ⟨p, cap, rfl⟩ := hv
    refine (AnyF.slices_SortFunc_none Try.sort5 p cap _ w).mono ?_
    rintro e w' ⟨rfl, rfl⟩
    exact ⟨rfl, [], List.Perm.refl _, List.Pairwise.nil, h, Apart.refl _ _⟩
  · obtain ⟨g, cap, rfl, hbg, hgl, hncap, hcm, hfr⟩ := own4_lies h hpos
    have eg : ∀ args w, (callFunc 55 args).run Try.prog w = .ok (.enter 55 args) w := enters_of Try.func55 (by kernel_rfl) rfl
    have hH : HoldsK rpCells 4 w g 0 l.toArray := by
      unfold HoldsK
      rw [flat_rp]
      intro j hj
      have hj' : j < l.length * 4 := by simpa [rowP_length] using hj
      rw [Nat.zero_add]
      refine ⟨?_, hfr j⟩
      rcases h.2 with ⟨h0, _⟩ | ⟨g', cap', cur, hv, _, hh, _, _, hs, ht⟩
      · cases h0
      · injection hv with e1 e2 e3
        injection e1 with e1
        injection e1 with e1
        subst e1 e3
        rw [cell_of_row w g j _ _ (0, 0) hh, getElem!_pos _ j hj, ← Array.getElem?_toList]
        have : (cur.toList.take (l.length * 4))[j]? = (rowP l)[j]? := by rw [ht]
        rw [List.getElem?_take, if_pos hj'] at this
        rw [this]
        simp [List.getElem?_eq_getElem (show j < (rowP l).length by rw [rowP_length]; exact hj')]
    have hcon := AnyQ.slices_SortFunc Try.sort5 4 Try.isAgg56 Try.sizeOf56 rpCells (fun _ => rfl) (fun x v hv => by simp [rpCells] at hv; rcases hv with rfl | rfl | rfl | rfl <;> rfl) cmpP swoP 55 #[] g 0 cap l.toArray w eg
      (fun m os dk hs x y => cmpP_any x y _) hH hgl (by simp; omega)
    have hsz : l.toArray.size = l.length := by simp
    rw [hsz] at hcon
    refine Calls.mono hcon ?_
    rintro e w' ⟨rfl, d', n, os, hp, hs, rfl⟩
    obtain ⟨p1, p2, p3⟩ := hp
    have hlen : d'.toList.length = l.length := by rw [Array.length_toList, p1, hsz]
    have hper : d'.toList.Perm l := by
      have e1 : (d'.extract 0 l.length).toList = d'.toList := by rw [← hlen]; simp
      have e2 : (l.toArray.extract 0 l.length).toList = l := by simp
      rw [e1, e2] at p3
      exact p3
    have hsor : RiseR d'.toList := by
      unfold RiseR
      rw [List.pairwise_iff_getElem]
      intro i j hi hj hij
      have := hs i j (Nat.zero_le _) hij (by omega)
      rw [ltP] at this
      have e1 : d'[i]! = d'.toList[i] := by rw [getElem!_pos d' i (by rw [← Array.length_toList]; exact hi)]; simp
      have e2 : d'[j]! = d'.toList[j] := by rw [getElem!_pos d' j (by rw [← Array.length_toList]; exact hj)]; simp
      rw [e1, e2] at this
      have h2 := of_decide_eq_false (by simpa using this : decide (d'.toList[j].2.u < d'.toList[i].2.u) = false)
      omega
    refine ⟨rfl, d'.toList, hper, hsor, ?_, ?_⟩
    · obtain ⟨h1, h2⟩ := h
      rcases h2 with ⟨h2, _⟩ | ⟨g', cap', cur, hv, hg, hh, hn, hc, hs', ht⟩
      · cases h2
      · injection hv with e1 e2 e3
        injection e1 with e1
        injection e1 with e1
        subst e1 e3
        have hF : (flatK rpCells 4 d') = (rowP d'.toList).toArray := by
          have := flat_rp d'.toList
          simpa using this
        rw [hlen]
        refine ⟨by rw [rowP_length, hlen], .inr ⟨g, cap, _, rfl, hbg, heap_put hh, hn, hc, by simp [putCells, hs'], ?_⟩⟩
        rw [hF]
        have hl2 : (rowP d'.toList).length = l.length * 4 := by rw [rowP_length, hlen]
        rw [← hl2]
        exact take_put cur _ (by rw [hl2, hs']; omega)
    · exact Apart.weaken apart_put fun b hb => by rw [hb]; rfl
end Go.Proofs.Ytpjmdnhoiobedaa

/-
  join of the program: the plan of tables, if there is one.
  Conditions: the slice reads as tables; they are not too many.
-/
set_option linter.unusedVariables false
set_option linter.unusedSimpArgs false
namespace Go.Proofs.Ytpjmdnhoiobedaa
open Go.RowKit Go.Maps

theorem rowP_snoc (l : List Rp) (r : Rp) : rowP (l ++ [r]) = rowP l ++ rpCells r := by simp [rowP]
theorem rp_one (r : Rp) : ∀ u ∈ rpCells r, u.oneCell' = true := by
  intro u hu
  simp [rpCells] at hu
  rcases hu with rfl | rfl | rfl | rfl <;> rfl
theorem plsR_length (ls : List Rp) : (plsR ls).length = ls.length := by unfold plsR; simp
theorem plsR_snoc (ls : List Rp) (r : Rp) : plsR (ls ++ [r]) = plsR ls ++ [r.2] := by simp [plsR]

/-- A row of places of one's own, their pieces in blocks of F that are not the row's. -/
structure RowPl (W : World) (base : Nat) (F : Nat → Prop) (v : Value) (ls : List Rp) : Prop where
  own : W.ownsRow base 56 4 v ls.length (rowP ls)
  pcs : AllPcs (fun b => F b ∧ v.ownBlock ≠ some b) W ls
theorem RowPl.nil (W : World) (base : Nat) (F : Nat → Prop) : RowPl W base F (.slice none 0 0) [] := ⟨World.ownsRow_nil _ _ _ _, AllPcs.nil _ _⟩
theorem RowPl.keep {W W' : World} {base : Nat} {F : Nat → Prop} {v : Value} {ls : List Rp} (h : RowPl W base F v ls) (hb : Below W.heap.size W W') : RowPl W' base F v ls := ⟨own_below5 h.own hb, h.pcs.keep hb⟩
theorem RowPl.snoc {W W' : World} {base : Nat} {F : Nat → Prop} {v v' : Value} {ls : List Rp} {r : Rp} (h : RowPl W base F v ls) (hr : PcsIn (fun b => F b ∧ v.ownBlock ≠ some b) W (rpV r) r.2.ps)
    (ho : W'.ownsRow base 56 4 v' (ls.length + 1) (rowP ls ++ rpCells r)) (hg : W.grownBy W' v.ownBlock) (hat : v'.ownBlock = v.ownBlock ∨ v'.ownBlock = some W.heap.size) : RowPl W' base F v' (ls ++ [r]) := by
  have hall := h.pcs.snoc hr
  refine ⟨by rw [rowP_snoc, List.length_append]; exact ho, (hall.mono (G := fun b => b < W.heap.size ∧ F b ∧ v.ownBlock ≠ some b) fun b hb hF => ⟨hb, hF⟩).keepF hg.size (fun b hb hF => hg.block b hb fun e => hF.2.2 e.symm) |>.mono fun b _ hF => ⟨hF.2.1, fun e => ?_⟩⟩
  rcases hat with hat | hat
  · exact hF.2.2 (hat ▸ e)
  · rw [hat] at e
    have := Option.some.inj e
    omega

/-- The cores of tables, as a number of 32 bits. -/
def coreT (m : Nat) (x : Tb) : Nat := m ||| (ofI [x.c] % 4294967296)
def coresT (l : List Tb) : Nat := l.foldl coreT 0
theorem coresT_take {l : List Tb} {k : Nat} {x : Tb} (h : l[k]? = some x) : coresT (l.take (k + 1)) = coreT (coresT (l.take k)) x := by
  unfold coresT
  rw [List.take_add_one, h, Option.toList_some, List.foldl_append]
  rfl
theorem coresT_lt : ∀ (l : List Tb) (k : Nat), coresT (l.take k) < 4294967296
  | l, 0 => by simp [coresT]
  | l, k + 1 => by
    by_cases h : k < l.length
    · rw [coresT_take (List.getElem?_eq_getElem h)]
      exact Nat.or_lt_two_pow (n := 32) (coresT_lt l k) (Nat.mod_lt _ (by decide))
    · have := coresT_lt l k
      rw [List.take_of_length_le (by omega)] at this ⊢
      exact this
/-- The whole places of tables. -/
def wholeP (x : Tb) (p : Sp) : Pl := ⟨p.1, p.2, x.c, []⟩
def wholesA (l : List Tb) : List Pl := l.flatMap fun x => x.ws.map (wholeP x)
theorem wholesA_take {l : List Tb} {k : Nat} {x : Tb} (h : l[k]? = some x) : wholesA (l.take (k + 1)) = wholesA (l.take k) ++ x.ws.map (wholeP x) := by
  unfold wholesA
  rw [List.take_add_one, h, Option.toList_some, List.flatMap_append]
  simp
theorem map_take_snoc {α β : Type} (f : α → β) {l : List α} {k : Nat} {x : α} (h : l[k]? = some x) : (l.take (k + 1)).map f = (l.take k).map f ++ [f x] := by
  rw [List.take_add_one, h, Option.toList_some, List.map_append]
  rfl
def wantsN : List Tb → Nat
  | [] => 0
  | x :: r => x.ws.length + wantsN r
theorem wholesA_length : ∀ l : List Tb, (wholesA l).length = wantsN l
  | [] => rfl
  | x :: l => by
    have := wholesA_length l
    unfold wholesA at *
    rw [List.flatMap_cons, List.length_append, List.length_map, wantsN, this]
theorem wantsN_le : ∀ (l : List Tb) (k : Nat), wantsN (l.take k) ≤ wantsN l
  | [], k => by simp
  | x :: l, 0 => by simp [wantsN]
  | x :: l, k + 1 => by rw [List.take_succ_cons, wantsN, wantsN]; have := wantsN_le l k; omega
theorem wantsN_take {l : List Tb} {k : Nat} {x : Tb} (h : l[k]? = some x) : wantsN (l.take (k + 1)) = wantsN (l.take k) + x.ws.length := by
  rw [← wholesA_length, ← wholesA_length, wholesA_take h, List.length_append, List.length_map]
def RiseU (l : List Pl) : Prop := l.Pairwise fun a b => a.u ≤ b.u
/-- What join tells. -/
def RetJoin (f : Int) (l : List Tb) (w : World) (e : Ending) (w' : World) : Prop := ∃ v L, e = .returned (planA f (coresT l) v) ∧ PlsAt w' v L ∧ Below w.heap.size w w' ∧ RiseU L ∧ L.Perm (wholesA l ++ (splT l).1.map (splT l).2)
theorem row_not {W : World} {base e size n : Nat} {v : Value} {xs : List Value} (h : W.ownsRow base e size v n xs) {b : Nat} {cs : Array Value} {T : TypeId} {fr : Nat × Nat} (hb : W.heap[b]? = some (.cells cs T fr)) (hT : T ≠ e) : v.ownBlock ≠ some b := fun e' => by
  obtain ⟨cur, hc⟩ := row_type h e'
  rw [hb] at hc
  injection hc with hc
  injection hc with _ hc
  exact hT hc
theorem RowPl.notOwn {W : World} {base : Nat} {F : Nat → Prop} {v : Value} {ls : List Rp} (h : RowPl W base F v ls) {b : Nat} {cs : Array Value} {T : TypeId} {fr : Nat × Nat} (hb : W.heap[b]? = some (.cells cs T fr)) (hT : T ≠ 56) : v.ownBlock ≠ some b := row_not h.own hb hT
/-- Where the plan under way lies; its pieces lie in blocks of F. -/
structure JoinAt (F : Nat → Prop) (W : World) (base Pb : Nat) (f : Int) (m : Nat) (v : Value) (ls : List Rp) : Prop where
  box : W.heap[Pb]? = some (.cells #[.int .i64 f, .int .u32 (m : Int), v] 25 (0, 0))
  row : RowPl W base F v ls
theorem JoinAt.keep {F : Nat → Prop} {W W' : World} {base Pb : Nat} {f : Int} {m : Nat} {v : Value} {ls : List Rp} (h : JoinAt F W base Pb f m v ls) (hb : Below W.heap.size W W') : JoinAt F W' base Pb f m v ls := ⟨keep_block h.box hb, h.row.keep hb⟩
theorem JoinAt.ne {F : Nat → Prop} {W : World} {base Pb : Nat} {f : Int} {m : Nat} {v : Value} {ls : List Rp} (h : JoinAt F W base Pb f m v ls) : v.ownBlock ≠ some Pb := h.row.notOwn h.box (by decide)
theorem JoinAt.cores {F : Nat → Prop} {W : World} {base Pb : Nat} {f : Int} {m : Nat} {v : Value} {ls : List Rp} (hP : ∀ b, F b → b ≠ Pb) (h : JoinAt F W base Pb f m v ls) (m' : Nat) : JoinAt F (W.setCell ⟨Pb, 1, none⟩ (.int .u32 (m' : Int))) base Pb f m' v ls :=
  ⟨heap_setCell_mem _ _ _ _ _ _ _ h.box, own_keep h.row.own fun k hk => Below.heap_setCell _ _ _ _ (fun e => h.ne (by rw [← show k = Pb from e]; exact hk)), h.row.pcs.keepF (by simp [World.setCell]) fun b _ hF => Below.heap_setCell _ _ _ _ (hP b hF.1)⟩
theorem JoinAt.more {F : Nat → Prop} {W W' : World} {base Pb : Nat} {f : Int} {m : Nat} {v v' : Value} {ls : List Rp} {r : Rp} (hP : ∀ b, F b → b ≠ Pb) (h : JoinAt F W base Pb f m v ls) (hr : PcsIn (fun b => F b ∧ v.ownBlock ≠ some b) W (rpV r) r.2.ps)
    (ho : W'.ownsRow base 56 4 v' (ls.length + 1) (rowP ls ++ rpCells r)) (hg : W.grownBy W' v.ownBlock) (hat : v'.ownBlock = v.ownBlock ∨ v'.ownBlock = some W.heap.size) :
    JoinAt F (W'.setCell ⟨Pb, 2, none⟩ v') base Pb f m v' (ls ++ [r]) := by
  have hb : W'.heap[Pb]? = some (.cells #[.int .i64 f, .int .u32 (m : Int), v] 25 (0, 0)) := (hg.block Pb (heap_lt h.box) fun e => h.ne e.symm).trans h.box
  have hrow := h.row.snoc hr ho hg hat
  have hne : v'.ownBlock ≠ some Pb := hrow.notOwn hb (by decide)
  exact ⟨heap_setCell_mem _ _ _ _ _ _ _ hb, own_keep hrow.own fun k hk => Below.heap_setCell _ _ _ _ (fun e => hne (by rw [← show k = Pb from e]; exact hk)), hrow.pcs.keepF (by simp [World.setCell]) fun b _ hF => Below.heap_setCell _ _ _ _ (hP b hF.1)⟩
/-- Where there are no pieces, any blocks will do. -/
theorem JoinAt.bare {F G : Nat → Prop} {W : World} {base Pb : Nat} {f : Int} {m : Nat} {v : Value} {ls : List Rp} (h : JoinAt F W base Pb f m v ls) (hp : ∀ x ∈ plsR ls, x.ps = []) : JoinAt G W base Pb f m v ls :=
  ⟨h.box, h.row.own, fun r hr => by
    have e : r.2.ps = [] := hp r.2 (List.mem_map.2 ⟨r, hr, rfl⟩)
    have h1 := h.row.pcs r hr
    obtain ⟨A, c, e1, h2, h3, h4⟩ := h1
    exact ⟨A, c, e1, h2, h3, fun h0 => by rw [e] at h0; exact absurd h0 (by decide)⟩⟩
theorem wholesA_bare {l : List Tb} : ∀ x ∈ wholesA l, x.ps = [] := fun x hx => by
  unfold wholesA at hx
  obtain ⟨t, _, h⟩ := List.mem_flatMap.1 hx
  obtain ⟨p, _, rfl⟩ := List.mem_map.1 h
  rfl
/-- Kept where the plan's block, its row's and its pieces' are as they were. -/
theorem JoinAt.block {F : Nat → Prop} {W W' : World} {base Pb : Nat} {f : Int} {m : Nat} {v : Value} {ls : List Rp} (h : JoinAt F W base Pb f m v ls) (hs : W.heap.size ≤ W'.heap.size) (h1 : W'.heap[Pb]? = W.heap[Pb]?) (h2 : ∀ b, v.ownBlock = some b → W'.heap[b]? = W.heap[b]?) (h3 : ∀ b, b < W.heap.size → F b → v.ownBlock ≠ some b → W'.heap[b]? = W.heap[b]?) : JoinAt F W' base Pb f m v ls :=
  ⟨h1.trans h.box, own_keep h.row.own h2, h.row.pcs.keepF hs fun b hb hF => h3 b hb hF.1 hF.2⟩
theorem iter_ne {W : World} {P : Program} {k : TypeId} {E : Value → Option (DataW Value × List MemPlace)} {mb ri n cnt : Nat} {D : DataW Value} {left : Go.Lit → Bool} (h : W.ranges P k E mb ri n D left cnt) {b : Nat} {cs : Array Value} {T : TypeId} {fr : Nat × Nat} (hb : W.heap[b]? = some (.cells cs T fr)) : b ≠ ri := by
  rintro rfl
  obtain ⟨es, clock, since, seen, c0, _, _, _, _, hr, _⟩ := h
  rw [hb] at hr
  cases hr
theorem same_int (a b : Int) : (Go.Lit.int .i64 a).sameKey (.int .i64 b) = decide (a = b) := by
  by_cases e : a = b
  · subst e
    rw [decide_eq_true rfl]
    exact WideAt.sameKey_self (keyLit_int a)
  · rw [decide_eq_false e]
    cases h : (Go.Lit.int .i64 a).sameKey (.int .i64 b) with
    | false => rfl
    | true =>
      have h1 := WideAt.sameKey_eq h
      injection h1 with _ h2
      exact absurd h2 e
theorem nodup_sub : ∀ {ks l : List Int}, ks.Nodup → (∀ a ∈ ks, a ∈ l) → ks.length ≤ l.length
  | [], l, _, _ => Nat.zero_le _
  | k :: ks, l, hn, h => by
    rw [List.nodup_cons] at hn
    have hk := h k (by simp)
    have h1 := nodup_sub (l := l.erase k) hn.2 fun a ha => (List.mem_erase_of_ne (fun e => hn.1 (by subst e; exact ha))).2 (h a (by simp [ha]))
    rw [List.length_erase_of_mem hk] at h1
    have := List.length_pos_of_mem hk
    rw [List.length_cons]
    omega
theorem pcs_of_ownB' {W : World} {base : Nat} {v : Value} {ps : List Pc} (h : W.ownsRow base 61 2 v ps.length (pcsCells ps)) : PcsIn (fun b => v.ownBlock = some b) W v ps := by
  obtain ⟨A, c, rfl, h1, h2, h3⟩ := pcs_of_own h
  refine ⟨A, c, rfl, h1, h2, fun h0 => ?_⟩
  obtain ⟨b, off, rfl, hb, _, hc⟩ := h3 h0
  exact ⟨b, off, rfl, hb, rfl, hc⟩
theorem grown_set (W : World) (p : Addr) (v : Value) : W.grownBy (W.setCell p v) (some p.block) := ⟨rfl, rfl, rfl, by simp [World.setCell], fun k _ hn => Below.heap_setCell _ _ _ _ fun e => hn (by rw [e])⟩

set_option maxRecDepth 100000 in
set_option maxHeartbeats 16000000 in
theorem join_any (f : Int) (v : Value) (l : List Tb) (w : World) (h : TabsAt w v l) (hl : l.length ≤ 20) (ho : TsOk l) (hn : ticksN l + wantsN l ≤ 1200000) :
    Calls Try.prog 32 #[.int .i64 f, v] w (RetJoin f l w) := by
  obtain ⟨i0, hi, hz0, hz1, hz2⟩ := info_parts Try.infoPl
  obtain ⟨A, cA, rfl, hlc, hcm⟩ := h.form
  have HL := Lib.hid h
  have HTO := Lib.hid ho
  have HTN := Lib.hid hn
  obtain ⟨n, hnn⟩ : ∃ n, l.length = n := ⟨_, rfl⟩
  have HSPL := Lib.hid (fun W h => splits_tab (.slice A l.length cA) l W h hl ho (by omega))
  rw [hnn] at HL HSPL hl hlc ⊢
  have HN := Lib.hid hnn
  obtain ⟨w0, R, hw0, hR, hRl, hb0, hrb⟩ := box_any w #[.int .i64 0, .int .u32 0, .slice none 0 0] 25
  obtain ⟨wz, Pb, hwz, hPb, hPbl, hbz, hpz⟩ := box_any w0 #[.int .i64 0, .int .u32 0, .slice none 0 0] 25
  have HPZ := Lib.hid hpz
  obtain ⟨w1, hw1⟩ : ∃ w1, wz.setRow Pb #[.int .i64 f, .int .u32 0, .slice none 0 0] = w1 := ⟨_, rfl⟩
  have hpb : w1.heap[Pb]? = some (.cells #[.int .i64 f, .int .u32 0, .slice none 0 0] 25 (0, 0)) := by rw [← hw1]; exact setRow_heap _ _ _ _ _ _ hpz
  have hb1 : Below w0.heap.size w0 w1 := by rw [← hw1]; exact below_row hbz (by omega) _
  have HB1 := Lib.hid (hb0.trans (hb1.mono hb0.size))
  have HR1 := Lib.hid (keep_block hrb hb1)
  have HJ1 : Hid (JoinAt (fun b => b ≠ Pb) w1 w.heap.size Pb f (coresT (l.take 0)) (.slice none 0 0) []) := Lib.hid ⟨hpb, RowPl.nil _ _ _⟩
  have HLT := Lib.hid (show w.heap.size ≤ R ∧ R < Pb ∧ w.heap.size ≤ Pb by have := hb0.size; omega)
  have mixed : Try.prog.follows .mixedOrders = true := by kernel_rfl
  clear h ho hn hnn hb0 hb1 hrb hpb hbz hpz
  go_enter Try.func32, Try.ntmps32
  go_wp2_with (refine wpList_store_row rfl _ _ _ rfl Pb #[.int .i64 f, .int .u32 0, .slice none 0 0] rfl rfl 25 _ HPZ.out (Try.sizePn _ _ _) rfl (one3 _ _ _ _ _) ?_)
  clear hw0 hw1 hwz hR hPb
  go_loopg [7, 9, 16] n (fun gg _ _ s16 wr => ∃ (i : Nat) (v : Value) (ls : List Rp), i ≤ n ∧ gg = n - i ∧ s16 = .int .i64 i ∧ JoinAt (fun b => b ≠ Pb) wr w.heap.size Pb f (coresT (l.take i)) v ls ∧ plsR ls = wholesA (l.take i) ∧ Below w.heap.size w wr ∧ wr.heap[R]? = some (.cells #[.int .i64 0, .int .u32 0, .slice none 0 0] 25 (0, 0)))
  case atStart => exact ⟨0, _, [], Nat.zero_le _, by omega, rfl, HJ1.out, rfl, HB1.out, HR1.out⟩
  case round =>
    obtain ⟨i, v, ls, hi1, hg, rfl, hj, hls, hbw, hrr⟩ := hrel
    have HG := Lib.hid hg
    have HJ := Lib.hid hj
    have HLS := Lib.hid hls
    have HBW := Lib.hid hbw
    have HRR := Lib.hid hrr
    clear hg hj hls hrr
    by_cases hin : i < n
    · have hi0 : (0 : Int) ≤ (i : Int) := by omega
      have hiz : (i : Int) < (n : Int) := by omega
      obtain ⟨x, hx⟩ := exP_at (xs := l) (k := i) (by rw [HN.out]; exact hin)
      obtain ⟨bt, ot, A1, c1, A2, c2, hA, hbt, g0', g1', g2', _, hs1⟩ := HL.out.at_ hx
      have g0 := (hbw.cell (p := ⟨bt, ot + i * 3, none⟩) hbt).trans g0'
      have g1 := (hbw.cell (p := ⟨bt, ot + i * 3 + 1, none⟩) hbt).trans g1'
      have g2 := (hbw.cell (p := ⟨bt, ot + i * 3 + 2, none⟩) hbt).trans g2'
      subst hA
      have HX := Lib.hid hx
      have HSW := Lib.hid hs1
      have HCT := Lib.hid (coresT_take hx)
      have HWA := Lib.hid (wholesA_take hx)
      have HWN := Lib.hid (wantsN_take hx)
      obtain ⟨ns, hns⟩ : ∃ ns, x.ws.length = ns := ⟨_, rfl⟩
      rw [hns] at HSW g2 HWN
      have hnsb : ns ≤ 1200000 := by
        have h1 := HWN.out
        have h2 := wantsN_le l (i + 1)
        have h3 := HTN.out
        omega
      have HNS := Lib.hid hns
      obtain ⟨M, hM⟩ : ∃ M, coresT (l.take i) = M := ⟨_, rfl⟩
      have hM32 : M < 4294967296 := by rw [← hM]; exact coresT_lt l i
      rw [hM] at HJ HCT
      obtain ⟨kk, hkk⟩ : ∃ kk, ofI [x.c] = kk := ⟨_, rfl⟩
      have HKK := Lib.hid hkk
      obtain ⟨k32, hk32⟩ : ∃ k32, kk % 4294967296 = k32 := ⟨_, rfl⟩
      have hk3 : k32 < 4294967296 := by rw [← hk32]; exact Nat.mod_lt _ (by decide)
      have hconv : IntKind.u32.wrap (kk : Int) = (k32 : Int) := by rw [IntKind.wrap_u32', ← hk32]; omega
      obtain ⟨M2, hM2⟩ : ∃ M2, M ||| k32 = M2 := ⟨_, rfl⟩
      have hor : bits BinOp.or IntKind.u32 (M : Int) (k32 : Int) = (M2 : Int) := by rw [u32_or_nat _ _ hM32 hk3, hM2]
      have HM2 : Hid (coresT (l.take (i + 1)) = M2) := Lib.hid (by rw [HCT.out]; unfold coreT; rw [hkk, hk32, hM2])
      obtain ⟨w2, X, hw2, hX, hXl, hb2, hxb⟩ := box_any wr #[.int .i64 x.c, .slice A1 x.ts.length c1, .slice A2 ns c2] 38
      obtain ⟨x0, x1, x2⟩ := three_heads hxb
      have HXB := Lib.hid hxb
      have HJ2 := Lib.hid (HJ.out.keep hb2)
      have HR2 := Lib.hid (keep_block HRR.out hb2)
      have HB2 := Lib.hid (HBW.out.trans (hb2.mono HBW.out.size))
      have HPB2 := Lib.hid HJ2.out.box
      obtain ⟨p0, p1, p2⟩ := three_heads HPB2.out
      have lX := hXl
      have lP := heap_lt HPB2.out
      have hXP : X ≠ Pb := by have := heap_lt HJ.out.box; omega
      have hXR : X ≠ R := by have := heap_lt HRR.out; omega
      have hRP : R ≠ Pb := by have := HLT.out; omega
      have HXW := Lib.hid (show w.heap.size ≤ X by have := HBW.out.size; omega)
      clear hx hns hb2 hxb hM hkk hk32 hM2 hs1 g0' g1' g2' hbw
      go_wp2_with fail
      refine wp_region_N (S1 := fun w' => w'.cell? ⟨X, 0, none⟩ = some (.int .i64 x.c)) (S2 := fun w' => w'.cell? ⟨Pb, 1, none⟩ = some (.int .u32 (M : Int))) (N := fun i => i != 9) (by kernel_rfl) ?_
      change wpAnyN _ _ _ _ _ _ _ 10 (Array.replicate 10 false) _ _
      refine wpAnyN_take false (i := 0) (oi := ⟨some 20, _, _, _, _, _⟩) (v := ?_) rfl (by kernel_rfl) (by kernel_rfl) (by kernel_rfl) (fun _ _ _ h => h) (Or.inl ⟨by kernel_rfl, ?_⟩) ⟨x0, fun h => (by cases h)⟩ ?_
      rotate_left
      · (intro w hSw; obtain ⟨hSa, hSb⟩ := hSw; clear hSb; (try dsimp only at hSa); go_simp; try with_reducible rfl)
      (try simp only [Act.put, List.setIfInBounds_toArray, List.set_cons_zero, List.set_cons_succ])
      refine wpAnyN_take true (i := 1) (oi := ⟨some 21, _, _, _, _, _⟩) (v := ?_) rfl (by kernel_rfl) (by kernel_rfl) (by kernel_rfl) (fun _ _ _ h => h) (Or.inl ⟨by kernel_rfl, ?_⟩) ⟨x0, fun _ => p1⟩ ?_
      rotate_left
      · (intro w hSw; obtain ⟨hSa, hSb⟩ := hSw; have hSc := hSb rfl; clear hSb; (try dsimp only at hSa hSc); go_simp; try with_reducible rfl)
      (try simp only [Act.put, List.setIfInBounds_toArray, List.set_cons_zero, List.set_cons_succ])
      refine wpAnyN_take false (i := 2) (oi := ⟨some 22, _, _, _, _, _⟩) (v := ?_) rfl (by kernel_rfl) (by kernel_rfl) (by kernel_rfl) (fun _ _ _ h => h) (Or.inl ⟨by kernel_rfl, ?_⟩) ⟨x0, fun h => (by cases h)⟩ ?_
      rotate_left
      · (intro w hSw; obtain ⟨hSa, hSb⟩ := hSw; clear hSb; (try dsimp only at hSa); go_simp; try with_reducible rfl)
      (try simp only [Act.put, List.setIfInBounds_toArray, List.set_cons_zero, List.set_cons_succ])
      refine wpAnyN_take false (i := 3) (oi := ⟨some 23, _, _, _, _, _⟩) (v := ?_) rfl (by kernel_rfl) (by kernel_rfl) (by kernel_rfl) (fun _ _ _ h => h) (Or.inl ⟨by kernel_rfl, ?_⟩) ⟨x0, fun h => (by cases h)⟩ ?_
      rotate_left
      · (intro w hSw; obtain ⟨hSa, hSb⟩ := hSw; clear hSb; (try dsimp only at hSa); go_simp; try with_reducible rfl)
      (try simp only [Act.put, List.setIfInBounds_toArray, List.set_cons_zero, List.set_cons_succ])
      refine wpAnyN_step (i := 4) (by kernel_rfl) rfl (by kernel_rfl) ?_
      intro K' hK
      (try simp only [Act.put, List.setIfInBounds_toArray, List.set_cons_zero, List.set_cons_succ])
      obtain ⟨wq1, J, hwJ, hJ, hJl, hb1, hjb⟩ := box_any w2.drew #[.int .i64 x.c] 3
      go_simp
      refine hK.out _ _ ((hb1.cell (p := ⟨X, 0, none⟩) lX).trans x0) (fun _ _ => (hb1.cell (p := ⟨Pb, 1, none⟩) lP).trans p1) ?_
      clear hK K'
      (try simp only [Act.put, List.setIfInBounds_toArray, List.set_cons_zero, List.set_cons_succ])
      clear hwJ
      refine wpAnyN_step (i := 5) (by kernel_rfl) rfl (by kernel_rfl) ?_
      intro K' hK
      (try simp only [Act.put, List.setIfInBounds_toArray, List.set_cons_zero, List.set_cons_succ])
      go_simp
      have hjt : IntsAt wq1 (.slice (some ⟨J, 0, none⟩) 1 1) [x.c] := RowAt.ints (show RowAt wq1 J [x.c] from hjb) (by show 1 ≤ 9223372036854775807; omega) 1
      go_at_call 52; refine (of_any [x.c] _ wq1 hjt).mono ?_; rintro e wq2 ⟨rfl, rfl⟩
      rw [HKK.out]
      refine hK.out _ _ ((hb1.cell (p := ⟨X, 0, none⟩) lX).trans x0) (fun _ _ => (hb1.cell (p := ⟨Pb, 1, none⟩) lP).trans p1) ?_
      clear hK K'
      (try simp only [Act.put, List.setIfInBounds_toArray, List.set_cons_zero, List.set_cons_succ])
      have z0 : wq1.cell? ⟨Pb, 1, none⟩ = some (.int .u32 (M : Int)) := (hb1.cell (p := ⟨Pb, 1, none⟩) lP).trans p1
      have z1 : wq1.frozen? ⟨Pb, 1, none⟩ = false := by have e := keep_block HPB2.out ((Below.refl _ _).drew.trans hb1); simp [World.frozen?, e]
      refine wpAnyN_take false (i := 6) (oi := ⟨some 26, _, _, _, _, _⟩) (v := ?_) rfl (by kernel_rfl) (by kernel_rfl) (by kernel_rfl) (fun _ _ _ h => h) (Or.inl ⟨by kernel_rfl, ?_⟩) ⟨(hb1.cell (p := ⟨X, 0, none⟩) lX).trans x0, fun h => (by cases h)⟩ ?_
      rotate_left
      · (intro w hSw; obtain ⟨hSa, hSb⟩ := hSw; clear hSb; (try dsimp only at hSa); go_simp; try with_reducible rfl)
      (try simp only [Act.put, List.setIfInBounds_toArray, List.set_cons_zero, List.set_cons_succ])
      refine wpAnyN_take false (i := 7) (oi := ⟨some 27, _, _, _, _, _⟩) (v := ?_) rfl (by kernel_rfl) (by kernel_rfl) (by kernel_rfl) (fun _ _ _ h => h) (Or.inl ⟨by kernel_rfl, ?_⟩) ⟨(hb1.cell (p := ⟨X, 0, none⟩) lX).trans x0, fun h => (by cases h)⟩ ?_
      rotate_left
      · (intro w hSw; obtain ⟨hSa, hSb⟩ := hSw; clear hSb; (try dsimp only at hSa); go_simp; try with_reducible rfl)
      (try simp only [Act.put, List.setIfInBounds_toArray, List.set_cons_zero, List.set_cons_succ])
      refine wpAnyN_take false (i := 8) (oi := ⟨some 28, _, _, _, _, _⟩) (v := ?_) rfl (by kernel_rfl) (by kernel_rfl) (by kernel_rfl) (fun _ _ _ h => h) (Or.inl ⟨by kernel_rfl, ?_⟩) ⟨(hb1.cell (p := ⟨X, 0, none⟩) lX).trans x0, fun h => (by cases h)⟩ ?_
      rotate_left
      · (intro w hSw; obtain ⟨hSa, hSb⟩ := hSw; clear hSb; (try dsimp only at hSa); go_simp; try with_reducible rfl)
      (try simp only [Act.put, List.setIfInBounds_toArray, List.set_cons_zero, List.set_cons_succ])
      refine wpAnyN_step (i := 9) (by kernel_rfl) rfl (by kernel_rfl) ?_
      intro K' hK
      (try simp only [Act.put, List.setIfInBounds_toArray, List.set_cons_zero, List.set_cons_succ])
      go_simp
      refine hK.out _ _ ((cell_set_ne (p := ⟨Pb, 1, none⟩) (q := ⟨X, 0, none⟩) hXP).trans ((hb1.cell (p := ⟨X, 0, none⟩) lX).trans x0)) (fun h => by cases h) ?_
      clear hK K'
      (try simp only [Act.put, List.setIfInBounds_toArray, List.set_cons_zero, List.set_cons_succ])
      refine wpAnyN_done (by kernel_rfl) ?_
      have hkq : Below w2.heap.size w2 wq1 := (Below.refl _ _).drew.trans hb1
      obtain ⟨wS, hwS⟩ : ∃ wS, wq1.setCell ⟨Pb, 1, none⟩ (.int .u32 (M2 : Int)) = wS := ⟨_, rfl⟩
      rw [hwS]
      have HJS : Hid (JoinAt (fun b => b ≠ Pb) wS w.heap.size Pb f M2 v ls) := Lib.hid (by rw [← hwS]; exact (HJ2.out.keep hkq).cores (fun b h => h) M2)
      have HRS : Hid (wS.heap[R]? = some (.cells #[.int .i64 0, .int .u32 0, .slice none 0 0] 25 (0, 0))) := Lib.hid (by rw [← hwS]; exact (Below.heap_setCell _ _ _ _ hRP).trans (keep_block HR2.out hkq))
      have HXS : Hid (wS.heap[X]? = some (.cells #[.int .i64 x.c, .slice A1 x.ts.length c1, .slice A2 ns c2] 38 (0, 0))) := Lib.hid (by rw [← hwS]; exact (Below.heap_setCell _ _ _ _ hXP).trans (keep_block HXB.out hkq))
      have HBS : Hid (Below w.heap.size w wS) := Lib.hid (by rw [← hwS]; exact (HB2.out.trans (hkq.mono HB2.out.size)).setCell (p := ⟨Pb, 1, none⟩) HLT.out.2.2 _)
      clear x0 x1 x2 p0 p1 p2 z0 z1 hb1 hkq hjt hjb hwS hw2 hX g0 g1 g2 hconv hor
      obtain ⟨x0, x1, x2⟩ := three_heads HXS.out
      go_wp2_with fail
      clear x0 x1 x2
      go_loopg [9, 32] ns (fun gg _ s32 wr => ∃ (k : Nat) (v : Value) (ls : List Rp), k ≤ ns ∧ gg = ns - k ∧ s32 = .int .i64 k ∧ JoinAt (fun b => b ≠ Pb) wr w.heap.size Pb f M2 v ls ∧ plsR ls = wholesA (l.take i) ++ (x.ws.take k).map (wholeP x) ∧ Below w.heap.size w wr ∧ wr.heap[R]? = some (.cells #[.int .i64 0, .int .u32 0, .slice none 0 0] 25 (0, 0)) ∧ wr.heap[X]? = some (.cells #[.int .i64 x.c, .slice A1 x.ts.length c1, .slice A2 ns c2] 38 (0, 0)))
      case atStart => exact ⟨0, v, ls, Nat.zero_le _, by omega, rfl, HJS.out, by rw [HLS.out]; simp, HBS.out, HRS.out, HXS.out⟩
      case round =>
        obtain ⟨k, v, ls, hk, hgk, rfl, hj, hls, hbk, hrk, hxk⟩ := hrel
        have HGK := Lib.hid hgk
        have HJK := Lib.hid hj
        have HLK := Lib.hid hls
        have HBK := Lib.hid hbk
        have HRK := Lib.hid hrk
        have HXK := Lib.hid hxk
        clear hgk hj hls hrk hxk
        by_cases hkn : k < ns
        · have hk0 : (0 : Int) ≤ (k : Int) := by omega
          have hkz : (k : Int) < (ns : Int) := by omega
          obtain ⟨p, hp⟩ := exP_at (xs := x.ws) (k := k) (by rw [HNS.out]; exact hkn)
          obtain ⟨A', c', e, _, _, _, h3⟩ := HSW.out.keep hbk
          obtain ⟨b4, o4, e4, hbl4, hc⟩ := h3 (by rw [HNS.out]; omega)
          injection e with e1 e2 e3
          rw [e4] at e1
          subst e1
          obtain ⟨q0', q1'⟩ := hc k p hp
          have HMT := Lib.hid (map_take_snoc (wholeP x) hp)
          have hlen : ls.length + 1 ≤ 1200000 := by
            have h1 : (plsR ls).length = ls.length := plsR_length ls
            rw [HLK.out, List.length_append, List.length_map, wholesA_length, List.length_take, HNS.out] at h1
            have h2 := wantsN_le l (i + 1)
            have h3 := HTN.out
            have h4 := HWN.out
            omega
          obtain ⟨q1, q2⟩ := p
          simp only at q0' q1'
          obtain ⟨w4, Y, hw4, hY, hYl, hb4, hyb⟩ := box_any wr #[.int .i64 q1, .int .i64 q2] 58
          obtain ⟨y0, y1⟩ := two_heads hyb
          obtain ⟨Av, cv, rfl⟩ := own_form HJK.out.row.own
          have HJ4 := Lib.hid (HJK.out.keep hb4)
          have HR4 := Lib.hid (keep_block HRK.out hb4)
          have HX4 := Lib.hid (keep_block HXK.out hb4)
          have HB4 := Lib.hid (HBK.out.trans (hb4.mono HBK.out.size))
          have hsz := HB4.out.size
          obtain ⟨x0, x1, x2⟩ := three_heads HX4.out
          obtain ⟨p0, p1, p2⟩ := three_heads HJ4.out.box
          clear h3 hc e2 e3 e4 hp hb4 hyb hbk
          go_wp2_with (at_builtin; refine wpList_append_own_at _ rfl _ _ 23 rfl w.heap.size 56 i0 (.agg #[.int .i64 0, .int .i64 0, .int .i64 0, .slice none 0 0]) 4 48 Try.underlying23 hi hz0 hz1 hz2 rfl (by decide) _ _ _ rfl (HJ4.out.row.own.alloc _) ⟨w4.heap.size, 0, none⟩ 1 1 [.int .i64 q1, .int .i64 q2, .int .i64 x.c, .slice none 0 0] rfl rfl ?c1 ?c2 ?c3 ?c4 ?c5 ?_)
          try (case c1 => exact World.news_of_block (heap_alloc_new _ _))
          try (case c2 => first | exact ⟨rfl, rfl, rfl, rfl⟩ | (intro q hq; simp at hq; rcases hq with rfl | rfl | rfl | rfl <;> rfl))
          try (case c3 => unfold maxLen; omega)
          try (case c4 => omega)
          try (case c5 => first | omega | (simp; omega))
          intro v6 w6 hown6 hgrow _ hat
          have hba := (Below.refl w4.heap.size w4).alloc (Nat.le_refl _) (.cells #[.int .i64 q1, .int .i64 q2, .int .i64 x.c, .slice none 0 0] 56)
          have hj5 := HJ4.out.keep hba
          have hb6 : Below w.heap.size w w6 := (HB4.out.alloc hsz _).trans (below_grown5 hgrow (by simp; omega) (own_base5 HJ4.out.row.own))
          have hn6 : v6.ownBlock ≠ some R ∧ w6.heap[R]? = some (.cells #[.int .i64 0, .int .u32 0, .slice none 0 0] 25 (0, 0)) := by
            have h1 := keep_block HR4.out hba
            have h2 : w6.heap[R]? = _ := (hgrow.block R (heap_lt h1) fun e => HJ4.out.row.notOwn HR4.out (by decide) e.symm).trans h1
            exact ⟨row_not hown6 h2 (by decide), h2⟩
          have HR6 := Lib.hid hn6.2
          have hp6 : w6.heap[Pb]? = some (.cells #[.int .i64 f, .int .u32 (M2 : Int), .slice Av ls.length cv] 25 (0, 0)) := (hgrow.block Pb (heap_lt hj5.box) fun e => hj5.ne e.symm).trans hj5.box
          obtain ⟨A6, c6, rfl⟩ := own_form hown6
          have HJ6 : Hid (JoinAt (fun b => b ≠ Pb) (w6.setCell ⟨Pb, 2, none⟩ (.slice A6 (ls.length + 1) c6)) w.heap.size Pb f M2 (.slice A6 (ls.length + 1) c6) (ls ++ [((none, 0), wholeP x (q1, q2))])) := Lib.hid (hj5.more (fun b h => h) (PcsIn.nil _ _) hown6 hgrow (hat.imp id fun e => e.trans (by simp)))
          have HB6 := Lib.hid (hb6.setCell (p := ⟨Pb, 2, none⟩) HLT.out.2.2 (.slice A6 (ls.length + 1) c6))
          have HR7 : Hid ((w6.setCell ⟨Pb, 2, none⟩ (.slice A6 (ls.length + 1) c6)).heap[R]? = some (.cells #[.int .i64 0, .int .u32 0, .slice none 0 0] 25 (0, 0))) := Lib.hid ((Below.heap_setCell _ _ _ _ hRP).trans HR6.out)
          have HX7 : Hid ((w6.setCell ⟨Pb, 2, none⟩ (.slice A6 (ls.length + 1) c6)).heap[X]? = some (.cells #[.int .i64 x.c, .slice A1 x.ts.length c1, .slice (some ⟨b4, o4, none⟩) ns c2] 38 (0, 0))) := Lib.hid ((Below.heap_setCell _ _ _ _ hXP).trans ((hgrow.block X (by simp; have := heap_lt HX4.out; omega) fun e => HJ4.out.row.notOwn HX4.out (by decide) e.symm).trans (keep_block HX4.out hba)))
          obtain ⟨s0, s1, s2⟩ := three_heads hp6
          have fr2 : w6.frozen? ⟨Pb, 2, none⟩ = false := by simp [World.frozen?, hp6]
          have HHAT := Lib.hid hat
          have HGR := Lib.hid hgrow
          clear hown6 hgrow hat hba hj5 hb6 hn6 hp6 hsz
          go_wp2_with fail
          go_roundg (ns - (k + 1))
          case measure => have := HGK.out; omega
          case rel => exact ⟨k + 1, _, _, by omega, rfl, by go_num, HJ6.out, by rw [plsR_snoc, HLK.out, HMT.out, List.append_assoc], HB6.out, HR7.out, HX7.out⟩
        · have hkz : ¬ (k : Int) < (ns : Int) := by omega
          have HE : Hid (plsR ls = wholesA (l.take (i + 1))) := Lib.hid (by rw [HLK.out, HWA.out, show x.ws.take k = x.ws from List.take_of_length_le (by rw [HNS.out]; omega)])
          rw [← HM2.out] at HJK
          go_wp2_with fail
          go_roundg (n - (i + 1))
          case measure => have := HG.out; omega
          case rel => exact ⟨i + 1, v, ls, by omega, rfl, by go_num, HJK.out, HE.out, HBK.out, HRK.out⟩
    · have hiz : ¬ (i : Int) < (n : Int) := by omega
      have HE : Hid (l.take i = l) := Lib.hid (List.take_of_length_le (by rw [HN.out]; omega))
      rw [HE.out] at HJ HLS
      obtain ⟨CM, hCM⟩ : ∃ CM, coresT l = CM := ⟨_, rfl⟩
      rw [hCM] at HJ
      have HCM := Lib.hid hCM
      have HLW := Lib.hid (HL.out.keep hbw)
      clear hbw hCM
      go_wp2_with fail
      refine (HSPL.out _ HLW.out).mono ?_
      rintro e wa ⟨mb, cn, V, D, rfl, hmb, hspl, hba⟩
      obtain ⟨bs, hbs⟩ : ∃ bs, wr.heap.size = bs := ⟨_, rfl⟩
      rw [hbs] at hspl hmb
      have HBSZ := Lib.hid (show w.heap.size ≤ bs by rw [← hbs]; exact HBW.out.size)
      clear hbs
      have HSA := Lib.hid hspl
      have HJA := Lib.hid (HJ.out.keep hba)
      have HRA := Lib.hid (keep_block HRR.out hba)
      have HBA := Lib.hid (HBW.out.trans (hba.mono HBW.out.size))
      have HBB := Lib.hid (splT_b HTO.out 0 l.length (Nat.le_refl _))
      rw [List.take_of_length_le (Nat.le_refl _)] at HBB
      obtain ⟨S, hS⟩ : ∃ S, splT l = S := ⟨_, rfl⟩
      rw [hS] at HSA HBB
      have HSS := Lib.hid hS
      have hmrow := HSA.out.own
      clear hba hspl hS hmb
      go_wp2_with (at_range; refine wpList_range_own _ rfl _ 88 rfl 3 56 keyedInt Try.underlying88 elemP mb cn D rfl hmrow ?_; intro wb hrg0 hgb hsb)
      go_frame
      have hbab : Below wa.heap.size wa wb := (Below.refl _ _).grown hgb (Nat.le_refl _) (fun k hk => by cases hk)
      have HJB := Lib.hid (HJA.out.keep hbab)
      have HRB := Lib.hid (keep_block HRA.out hbab)
      have HSB := Lib.hid (HSA.out.keep hbab)
      have HBB2 := Lib.hid (HBA.out.trans (hbab.mono HBA.out.size))
      obtain ⟨ri, hri⟩ : ∃ ri, wa.heap.size = ri := ⟨_, rfl⟩
      rw [hri] at hrg0 ⊢
      have HRG0 := Lib.hid hrg0
      have HRIB := Lib.hid (show w.heap.size ≤ ri by rw [← hri]; exact HBA.out.size)
      clear hrg0 hgb hsb hbab hmrow hri
      go_loopw [11] (fun _ wr => ∃ (left : Go.Lit → Bool) (cnt : Nat) (v : Value) (ls : List Rp) (ks : List Int), wr.ranges Try.prog 3 elemP mb ri cn D left cnt ∧ JoinAt (fun b => b ≠ Pb ∧ b ≠ R ∧ b ≠ ri) wr w.heap.size Pb f CM v ls ∧ plsR ls = wholesA l ++ ks.map S.2 ∧ ks.Nodup ∧ (∀ q ∈ ks, q ∈ S.1) ∧ (∀ q : Int, left (.int .i64 q) = decide (q ∈ S.1 ∧ q ∉ ks)) ∧ SplAt wr bs mb cn V S D ∧ Below w.heap.size w wr ∧ wr.heap[R]? = some (.cells #[.int .i64 0, .int .u32 0, .slice none 0 0] 25 (0, 0)))
        (fun _ wr => wr.rangeLeft mb ri)
      case atStart => exact ⟨_, _, _, _, [], HRG0.out, HJB.out.bare (by rw [HLS.out]; exact wholesA_bare), by rw [HLS.out]; simp, List.nodup_nil, fun q hq => (by cases hq), fun q => by rw [HSB.out.has_ q]; simp, HSB.out, HBB2.out, HRB.out⟩
      case round =>
        obtain ⟨left, cnt, v, ls, ks, hrg, hj, hls, hnd, hin2, hlf, hsp, hbk, hrk⟩ := hrel
        have HRG := Lib.hid hrg
        have HJK := Lib.hid hj
        have HLK := Lib.hid hls
        have HND := Lib.hid hnd
        have HIN := Lib.hid hin2
        have HLF := Lib.hid hlf
        have HSK := Lib.hid hsp
        have HBK := Lib.hid hbk
        have HRK := Lib.hid hrk
        clear hj hls hnd hin2 hlf hsp hbk hrk
        go_wp2_with (at_next; refine wpList_next_ranges _ rfl _ rfl 3 keyedInt elemP (Value.int .i64) id (fun key kl hkey => by obtain ⟨x, rfl, _⟩ := Maps.keyOf_int_inv Try.underlying3 hkey; exact ⟨x, rfl⟩) (fun v y hv => ⟨v, rfl⟩) mb ri cn _ _ _ rfl hrg ?_ ?_)
        · intro hc0 hl0
          have HKP : Hid (ks.Perm S.1) := Lib.hid (by
            rw [List.perm_ext_iff_of_nodup HND.out HBB.out.nodup]
            intro q
            refine ⟨HIN.out q, fun hq => ?_⟩
            have h1 := HLF.out q
            rw [hl0] at h1
            have h2 := of_decide_eq_false h1.symm
            exact Classical.byContradiction fun hn => h2 ⟨hq, hn⟩)
          obtain ⟨Av, cv, rfl⟩ := own_form HJK.out.row.own
          have hlen : ls.length ≤ 1200000 := by
            have h1 : (plsR ls).length = ls.length := plsR_length ls
            rw [HLK.out, List.length_append, List.length_map, wholesA_length, HKP.out.length_eq] at h1
            have h2 := HBB.out.few
            have h3 := HTN.out
            omega
          have HSO := Lib.hid (sortPl_any w.heap.size (.slice Av ls.length cv) ls wr HJK.out.row.own (by omega) HBK.out.size)
          obtain ⟨p0, p1, p2⟩ := three_heads HJK.out.box
          clear hc0 hl0 hrg
          go_wp2_with fail
          refine HSO.out.mono ?_
          rintro e w5 ⟨rfl, ls', hper, hrise, hown5, hap⟩
          have hl5 : ls'.length = ls.length := hper.length_eq
          have HB5 : Hid (Below w.heap.size w w5) := Lib.hid (HBK.out.trans (hap.below HBK.out.size fun k hk e => by
            have := own_base5 HJK.out.row.own k e
            omega))
          have HP5 : Hid (w5.heap[Pb]? = some (.cells #[.int .i64 f, .int .u32 (CM : Int), .slice Av ls.length cv] 25 (0, 0))) := Lib.hid ((hap.block Pb (heap_lt HJK.out.box) HJK.out.ne).trans HJK.out.box)
          have HR5 : Hid (w5.heap[R]? = some (.cells #[.int .i64 0, .int .u32 0, .slice none 0 0] 25 (0, 0))) := Lib.hid ((hap.block R (heap_lt HRK.out) (HJK.out.row.notOwn HRK.out (by decide))).trans HRK.out)
          have HPC : Hid (AllPcs (fun b => b ≠ Pb ∧ b ≠ R ∧ b ≠ ri) w5 ls') := Lib.hid (fun r hr => ((HJK.out.row.pcs r (hper.mem_iff.1 hr)).keepF hap.size (fun b hb hF => hap.block b hb hF.2)).mono fun b _ hF => hF.1)
          have HO5 : Hid (w5.ownsRow w.heap.size 56 4 (.slice Av ls.length cv) ls'.length (rowP ls')) := Lib.hid hown5
          have HRI := Lib.hid hrise
          have HPE := Lib.hid hper
          have HL5 := Lib.hid hl5
          have hnoR : (Value.slice Av ls.length cv).ownBlock ≠ some R := row_not hown5 HR5.out (by decide)
          clear hper hrise hown5 hap p0 p1 p2 hl5
          obtain ⟨p0, p1, p2⟩ := three_heads HP5.out
          go_wp2_with (refine wpList_store_row rfl _ _ _ rfl R #[.int .i64 f, .int .u32 (CM : Int), .slice Av ls.length cv] rfl rfl 25 _ HR5.out (Try.sizePn _ _ _) rfl (one3 _ _ _ _ _) ?_)
          refine bodyPost_ret (v := planA f CM (.slice Av ls.length cv)) (results_cell_row rfl _ _ R _ _ _ _ rfl (setRow_heap _ _ _ _ _ _ HR5.out) Try.underlying25 rfl (Try.sizePn _ _ _)) rfl ?_
          refine ⟨_, plsR ls', by rw [HCM.out], ?_, below_row HB5.out HLT.out.1 _, ?_, ?_⟩
          · have ho := own_keep (w' := w5.setRow R #[.int .i64 f, .int .u32 (CM : Int), .slice Av ls.length cv]) HO5.out fun k hk => setRow_other _ _ _ _ fun e => hnoR (by rw [← e]; exact hk)
            have hp := HPC.out.keepF (W' := w5.setRow R #[.int .i64 f, .int .u32 (CM : Int), .slice Av ls.length cv]) (by simp [World.setRow]) fun b _ hF => setRow_other _ _ _ _ hF.2.1
            exact (pls_of_own ho hp).any
          · show List.Pairwise _ (ls'.map Prod.snd)
            rw [List.pairwise_map]
            exact HRI.out
          · have h1 : (plsR ls').Perm (plsR ls) := HPE.out.map _
            rw [HLK.out] at h1
            rw [HSS.out]
            exact h1.trans ((List.Perm.refl _).append (HKP.out.map _))
        · intro q cval kl y y' w3 cnt1 hkey hlx hR hat hrg1 hlt1 hg3 hs3 hen
          obtain ⟨q', e1, hkl, hwf⟩ := Maps.keyOf_int_inv Try.underlying3 hkey
          injection e1 with _ e1
          subst e1
          subst hkl
          have hmem : q ∈ S.1 ∧ q ∉ ks := of_decide_eq_true ((HLF.out q).symm.trans hlx)
          have hcv : cval = plA (V q) (S.2 q) := by
            have h1 := hat (.held zeroPA)
            rw [HSK.out.val q] at h1
            obtain ⟨h2, -⟩ := Prod.mk.inj (Option.some.inj hR)
            exact (DataW.held.inj (h1.trans h2.symm)).symm
          obtain ⟨z, hz⟩ : ∃ z, S.2 q = z := ⟨_, rfl⟩
          have hrz := HSK.out.row q
          rw [hz] at hcv hrz
          obtain ⟨Az, cz, hVq⟩ := own_form hrz
          rw [hVq] at hcv hrz
          unfold plA at hcv
          subst hcv
          have hkb : ∀ (b : Nat) (cs : Array Value) (T : TypeId) (fr : Nat × Nat), wr.heap[b]? = some (.cells cs T fr) → w3.heap[b]? = wr.heap[b]? := fun b cs T fr hb => hg3.block b (heap_lt hb) fun e => iter_ne hrg hb (Option.some.inj e)
          have hb3 : Below w.heap.size w w3 := HBK.out.trans ⟨hg3.os, hg3.tape, hg3.output, hg3.size, fun k hk => hg3.block k (by have := HBK.out.size; omega) fun e => by have h1 := HRIB.out; have h2 := Option.some.inj e; omega⟩
          have hj3 : JoinAt (fun b => b ≠ Pb ∧ b ≠ R ∧ b ≠ ri) w3 w.heap.size Pb f CM v ls := HJK.out.block hg3.size (hkb Pb _ _ _ HJK.out.box) (fun b hb => by
            obtain ⟨cur, hc⟩ := row_type HJK.out.row.own hb
            exact hkb b _ _ _ hc) fun b hb hF _ => hg3.block b hb fun e => hF.2.2 (Option.some.inj e)
          have hs3' : SplAt w3 bs mb cn V S D := HSK.out.keepF (hg3.block mb HSK.out.own.lt fun e => hrg.ne (Option.some.inj e).symm) fun q b hb => by
            obtain ⟨cur, hc⟩ := row_type (HSK.out.row q) hb
            exact hkb b _ _ _ hc
          have hr3 : w3.heap[R]? = _ := (hkb R _ _ _ HRK.out).trans HRK.out
          obtain ⟨Av, cv, rfl⟩ := own_form HJK.out.row.own
          obtain ⟨w4, Y, hw4, hY, hYl, hb4, hyb⟩ := box_any w3 #[.int .i64 z.u, .int .i64 z.s, .int .i64 z.c, .slice Az z.ps.length cz] 56
          have HJ4 := Lib.hid (hj3.keep hb4)
          have HR4 := Lib.hid (keep_block hr3 hb4)
          have HS4 := Lib.hid (hs3'.keep hb4)
          have HB4 := Lib.hid (hb3.trans (hb4.mono hb3.size))
          have hrg4 := (show w4.ranges Try.prog 3 elemP mb ri cn D _ cnt1 by rw [← hw4]; exact hrg1.alloc _)
          have hsz := HB4.out.size
          have HPZ5 : Hid (PcsIn (fun b => (b ≠ Pb ∧ b ≠ R ∧ b ≠ ri) ∧ (Value.slice Av ls.length cv).ownBlock ≠ some b) w4 (rpV ((Az, cz), z)) z.ps) := Lib.hid (by
            have hrw := HS4.out.row q
            rw [hz, hVq] at hrw
            refine (pcs_of_ownB' hrw).mono fun b _ hb => ?_
            obtain ⟨cur, hc⟩ := row_type hrw hb
            refine ⟨⟨fun e => ?_, fun e => ?_, iter_ne hrg4 hc⟩, fun e => ?_⟩
            · rw [e, HJ4.out.box] at hc
              injection hc with hc
              injection hc with _ hc
              exact absurd hc (by decide)
            · rw [e, HR4.out] at hc
              injection hc with hc
              injection hc with _ hc
              exact absurd hc (by decide)
            · exact HJ4.out.row.notOwn hc (by decide) e)
          have hlen : ls.length + 1 ≤ 1200000 := by
            have h1 : (plsR ls).length = ls.length := plsR_length ls
            rw [HLK.out, List.length_append, List.length_map, wholesA_length] at h1
            have hnd2 : (ks ++ [q]).Nodup := by
              rw [List.nodup_append]
              exact ⟨HND.out, by simp, fun a ha b hb e => hmem.2 (by rw [List.mem_singleton.1 hb] at e; exact e ▸ ha)⟩
            have h4 := nodup_sub hnd2 (l := S.1) (fun a ha => by
              rcases List.mem_append.1 ha with h | h
              · exact HIN.out a h
              · rw [List.mem_singleton.1 h]; exact hmem.1)
            rw [List.length_append] at h4
            have h2 := HBB.out.few
            have h3 := HTN.out
            simp at h4
            omega
          obtain ⟨y0, y1, y2, y3⟩ := four_heads hyb
          obtain ⟨p0, p1, p2⟩ := three_heads HJ4.out.box
          have HMEM := Lib.hid hmem
          have HZ := Lib.hid hz
          have HLT1 := Lib.hid hlt1
          clear hkey hlx hR hat hrg1 hlt1 hg3 hs3 hwf hmem hz hrz hVq hkb hb3 hj3 hs3' hr3 hb4 hyb hrg
          go_wp2_with (at_builtin; refine wpList_append_own_at _ rfl _ _ 23 rfl w.heap.size 56 i0 (.agg #[.int .i64 0, .int .i64 0, .int .i64 0, .slice none 0 0]) 4 48 Try.underlying23 hi hz0 hz1 hz2 rfl (by decide) _ _ _ rfl (HJ4.out.row.own.alloc _) ⟨w4.heap.size, 0, none⟩ 1 1 [.int .i64 z.u, .int .i64 z.s, .int .i64 z.c, .slice Az z.ps.length cz] rfl rfl ?c1 ?c2 ?c3 ?c4 ?c5 ?_)
          try (case c1 => exact World.news_of_block (heap_alloc_new _ _))
          try (case c2 => first | exact ⟨rfl, rfl, rfl, rfl⟩ | (intro q hq; simp at hq; rcases hq with rfl | rfl | rfl | rfl <;> rfl))
          try (case c3 => unfold maxLen; omega)
          try (case c4 => omega)
          try (case c5 => first | omega | (simp; omega))
          intro v6 w6 hown6 hgrow _ hat
          have hba := (Below.refl w4.heap.size w4).alloc (Nat.le_refl _) (.cells #[.int .i64 z.u, .int .i64 z.s, .int .i64 z.c, .slice Az z.ps.length cz] 56)
          have hj5 := HJ4.out.keep hba
          have hb6 : Below w.heap.size w w6 := (HB4.out.alloc hsz _).trans (below_grown5 hgrow (by simp; omega) (own_base5 HJ4.out.row.own))
          have hn6 : v6.ownBlock ≠ some R ∧ w6.heap[R]? = some (.cells #[.int .i64 0, .int .u32 0, .slice none 0 0] 25 (0, 0)) := by
            have h1 := keep_block HR4.out hba
            have h2 : w6.heap[R]? = _ := (hgrow.block R (heap_lt h1) fun e => HJ4.out.row.notOwn HR4.out (by decide) e.symm).trans h1
            exact ⟨row_not hown6 h2 (by decide), h2⟩
          have HR6 := Lib.hid hn6.2
          have hp6 : w6.heap[Pb]? = some (.cells #[.int .i64 f, .int .u32 (CM : Int), .slice Av ls.length cv] 25 (0, 0)) := (hgrow.block Pb (heap_lt hj5.box) fun e => hj5.ne e.symm).trans hj5.box
          obtain ⟨A6, c6, rfl⟩ := own_form hown6
          have HJ6 : Hid (JoinAt (fun b => b ≠ Pb ∧ b ≠ R ∧ b ≠ ri) (w6.setCell ⟨Pb, 2, none⟩ (.slice A6 (ls.length + 1) c6)) w.heap.size Pb f CM (.slice A6 (ls.length + 1) c6) (ls ++ [((Az, cz), z)])) := Lib.hid (hj5.more (fun b h => h.1) (HPZ5.out.keep hba) hown6 hgrow (hat.imp id fun e => e.trans (by simp)))
          have HB6 := Lib.hid (hb6.setCell (p := ⟨Pb, 2, none⟩) HLT.out.2.2 (.slice A6 (ls.length + 1) c6))
          have HR7 : Hid ((w6.setCell ⟨Pb, 2, none⟩ (.slice A6 (ls.length + 1) c6)).heap[R]? = some (.cells #[.int .i64 0, .int .u32 0, .slice none 0 0] 25 (0, 0))) := Lib.hid ((Below.heap_setCell _ _ _ _ (show R ≠ Pb from fun e => by have := HLT.out; omega)).trans HR6.out)
          obtain ⟨s0, s1, s2⟩ := three_heads hp6
          have fr2 : w6.frozen? ⟨Pb, 2, none⟩ = false := by simp [World.frozen?, hp6]
          have HHAT := Lib.hid hat
          have HGR := Lib.hid hgrow
          have hrow6 : ∀ (b : Nat) (cs : Array Value) (T : TypeId) (fr : Nat × Nat), w4.heap[b]? = some (.cells cs T fr) → T ≠ 56 → w6.heap[b]? = w4.heap[b]? := fun b cs T fr hb hT =>
            (hgrow.block b (by simp; have := heap_lt hb; omega) fun e => HJ4.out.row.notOwn hb hT e.symm).trans (hba.block b (heap_lt hb))
          have hmb6 : w6.heap[mb]? = w4.heap[mb]? := (hgrow.block mb (by simp; have := HS4.out.own.lt; omega) fun e => by
            obtain ⟨cur, hc⟩ := row_type HJ4.out.row.own e.symm
            obtain ⟨es, clock, hh, _⟩ := HS4.out.own
            rw [hc] at hh
            cases hh).trans (hba.block mb HS4.out.own.lt)
          have hmP : mb ≠ Pb := fun e => by
            obtain ⟨es, clock, hh, _⟩ := HS4.out.own
            rw [e, HJ4.out.box] at hh
            cases hh
          have HS7 : Hid (SplAt (w6.setCell ⟨Pb, 2, none⟩ (.slice A6 (ls.length + 1) c6)) bs mb cn V S D) := Lib.hid (HS4.out.keepF ((Below.heap_setCell _ _ _ _ hmP).trans hmb6) fun q b hb => by
            obtain ⟨cur, hc⟩ := row_type (HS4.out.row q) hb
            refine (Below.heap_setCell _ _ _ _ (show b ≠ Pb from fun e => ?_)).trans (hrow6 b cur _ _ hc (by decide))
            rw [e, HJ4.out.box] at hc
            injection hc with hc
            injection hc with _ hc
            exact absurd hc (by decide))
          have hrg6 := ((hrg4.alloc (.cells #[.int .i64 z.u, .int .i64 z.s, .int .i64 z.c, .slice Az z.ps.length cz] 56)).kept hgrow (fun e => by
            obtain ⟨cur, hc⟩ := row_type HJ4.out.row.own e.symm
            obtain ⟨es, clock, hh, _⟩ := HS4.out.own
            rw [hc] at hh
            cases hh) (fun e => by
            obtain ⟨cur, hc⟩ := row_type HJ4.out.row.own e.symm
            exact iter_ne hrg4 hc rfl)).kept (grown_set w6 ⟨Pb, 2, none⟩ (.slice A6 (ls.length + 1) c6)) (fun e => hmP (Option.some.inj e)) (fun e => iter_ne hrg4 HJ4.out.box (Option.some.inj e).symm)
          have HRG6 := Lib.hid hrg6
          clear hown6 hgrow hat hba hj5 hb6 hn6 hp6 hsz hrow6 hmb6 hmP hrg6 hrg4
          go_wp2_with fail
          go_roundw
          case rel =>
            refine ⟨_, cnt1, _, _, ks ++ [q], HRG6.out, HJ6.out, by rw [plsR_snoc, HLK.out, List.map_append, List.append_assoc]; show _ ++ (_ ++ [z]) = _ ++ (_ ++ [S.2 q]); rw [HZ.out], ?_, ?_, ?_, HS7.out, HB6.out, HR7.out⟩
            · rw [List.nodup_append]
              exact ⟨HND.out, by simp, fun a ha b hb e => HMEM.out.2 (by rw [List.mem_singleton.1 hb] at e; exact e ▸ ha)⟩
            · intro a ha
              rcases List.mem_append.1 ha with h | h
              · exact HIN.out a h
              · rw [List.mem_singleton.1 h]; exact HMEM.out.1
            · intro a
              show (left (.int .i64 a) && !(Go.Lit.int .i64 a).sameKey (.int .i64 q)) = _
              rw [HLF.out a, same_int]
              by_cases e : a = q
              · subst e; simp
              · simp [e]
          case measure => rw [HRG6.out.left_eq, HRG.out.left_eq]; exact HLT1.out
end Go.Proofs.Ytpjmdnhoiobedaa
