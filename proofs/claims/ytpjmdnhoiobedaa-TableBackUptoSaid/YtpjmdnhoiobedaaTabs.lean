/-
  Tables: whose window each tick is, and where tables lie.
  Conditions: none.
-/
import Derived.Test.YtpjmdnhoiobedaaWholesO
import Derived.Test.YtpjmdnhoiobedaaBase
import Derived.Test.YtpjmdnhoiobedaaTicks
set_option linter.unusedVariables false
namespace Go.Proofs.Ytpjmdnhoiobedaa
open Go.RowKit

/-! ### Whose a tick is -/
def ownS (c : Int) (t : Nat) (a : Int) (x : Pl) : Int := if 0 < nOn x.ps c t then x.u else a
/-- The unit of the last place that runs on a core at a tick, 0 if none does. -/
def ownF (l : List Pl) (c : Int) (t : Nat) : Int := l.foldl (ownS c t) 0
theorem ownF_snoc (l : List Pl) (x : Pl) (c : Int) (t : Nat) : ownF (l ++ [x]) c t = ownS c t (ownF l c t) x := by simp [ownF, List.foldl_append]
theorem ownF_take {l : List Pl} {k : Nat} {x : Pl} (hx : l[k]? = some x) (c : Int) (t : Nat) : ownF (l.take (k + 1)) c t = ownS c t (ownF (l.take k) c t) x := by
  rw [List.take_add_one, hx, Option.toList_some, ownF_snoc]
/-- The first n numbers of a function. -/
def rowN (n : Nat) (F : Nat → Int) : List Int := (List.range n).map F
theorem rowN_length (n : Nat) (F : Nat → Int) : (rowN n F).length = n := by simp [rowN]
theorem rowN_get {n : Nat} (F : Nat → Int) {t : Nat} (h : t < n) : (rowN n F)[t]? = some (F t) := by simp [rowN, h]
theorem rowN_congr {n : Nat} {F G : Nat → Int} (h : ∀ t, t < n → F t = G t) : rowN n F = rowN n G := List.map_congr_left fun t ht => h t (List.mem_range.1 ht)
theorem rowN_zero (n : Nat) : rowN n (fun _ => 0) = zeros n := by
  unfold rowN zeros
  rw [List.map_const', List.length_range]
theorem rowN_set {n : Nat} (F : Nat → Int) (t : Nat) (u : Int) : (rowN n F).set t u = rowN n (fun s => if s = t then u else F s) := by
  apply List.ext_getElem?
  intro j
  by_cases hj : j < n
  · rw [rowN_get _ hj, List.getElem?_set]
    by_cases e : t = j
    · subst e; rw [if_pos rfl, if_pos (by rw [rowN_length]; exact hj), if_pos rfl]
    · rw [if_neg e, rowN_get _ hj, if_neg (Ne.symm e)]
  · rw [List.getElem?_eq_none (by rw [List.length_set, rowN_length]; omega), List.getElem?_eq_none (by rw [rowN_length]; omega)]

/-- A core's frame. -/
structure Tb where
  c : Int
  ts : List Int
  ws : List Sp
theorem Tb.ext' {a b : Tb} (h1 : a.c = b.c) (h2 : a.ts = b.ts) (h3 : a.ws = b.ws) : a = b := by cases a; cases b; simp_all
instance : DecidableEq Tb := fun a b => decidable_of_iff (a.c = b.c ∧ a.ts = b.ts ∧ a.ws = b.ws) ⟨fun h => Tb.ext' h.1 h.2.1 h.2.2, fun h => by rw [h]; exact ⟨rfl, rfl, rfl⟩⟩
instance : Inhabited Tb := ⟨⟨0, [], []⟩⟩
def tabOf (n : Nat) (l : List Pl) (c : Int) : Tb := ⟨c, rowN n (ownF l c), wholesT l c⟩
def tabsOf (n m : Nat) (l : List Pl) : List Tb := (ticksI m 16).map (tabOf n l)

/-! ### Where tables lie -/
theorem ints_block {W W' : World} {v : Value} {xs : List Int} (h : IntsAt W v xs) (hs : W.heap.size ≤ W'.heap.size) (hk : 0 < xs.length → ∀ b, v.ownBlock = some b → b < W.heap.size → W'.heap[b]? = W.heap[b]?) : IntsAt W' v xs := by
  obtain ⟨A, c, rfl, h2, h3⟩ := h
  refine ⟨A, c, rfl, h2, fun hn => ?_⟩
  obtain ⟨b, off, rfl, hlt, hc⟩ := h3 hn
  exact ⟨b, off, rfl, Nat.lt_of_lt_of_le hlt hs, fun j x hx => (World.cell?_of_block (w := W) (hk hn b rfl hlt)).trans (hc j x hx)⟩
theorem spans_block {W W' : World} {v : Value} {xs : List Sp} (h : SpansAt W v xs) (hs : W.heap.size ≤ W'.heap.size) (hk : 0 < xs.length → ∀ b, v.ownBlock = some b → b < W.heap.size → W'.heap[b]? = W.heap[b]?) : SpansAt W' v xs := by
  obtain ⟨A, c, rfl, h2, h3, h4, h5⟩ := h
  refine ⟨A, c, rfl, h2, h3, h4, fun hn => ?_⟩
  obtain ⟨b, off, rfl, hlt, hc⟩ := h5 hn
  exact ⟨b, off, rfl, Nat.lt_of_lt_of_le hlt hs, fun j x hx => ⟨(World.cell?_of_block (w := W) (hk hn b rfl hlt)).trans (hc j x hx).1, (World.cell?_of_block (w := W) (hk hn b rfl hlt)).trans (hc j x hx).2⟩⟩
theorem IntsAt.form {W : World} {v : Value} {xs : List Int} (h : IntsAt W v xs) : ∃ A c, v = .slice A xs.length c := by obtain ⟨A, c, rfl, _⟩ := h; exact ⟨A, c, rfl⟩
theorem SpansAt.form {W : World} {v : Value} {xs : List Sp} (h : SpansAt W v xs) : ∃ A c, v = .slice A xs.length c := by obtain ⟨A, c, rfl, _⟩ := h; exact ⟨A, c, rfl⟩

/-- A table, and where its two slices lie. -/
abbrev Rt := (Option Addr × Nat) × (Option Addr × Nat) × Tb
def tV1 (r : Rt) : Value := .slice r.1.1 r.2.2.ts.length r.1.2
def tV2 (r : Rt) : Value := .slice r.2.1.1 r.2.2.ws.length r.2.1.2
def tbCells (r : Rt) : List Value := [.int .i64 r.2.2.c, tV1 r, tV2 r]
def tbA (r : Rt) : Value := .agg #[.int .i64 r.2.2.c, tV1 r, tV2 r]
def rowT (l : List Rt) : List Value := l.flatMap tbCells
theorem rowT_cons (m : Rt) (l : List Rt) : rowT (m :: l) = .int .i64 m.2.2.c :: tV1 m :: tV2 m :: rowT l := by simp [rowT, tbCells]
theorem rowT_append (l k : List Rt) : rowT (l ++ k) = rowT l ++ rowT k := by simp [rowT]
theorem rowT_snoc (l : List Rt) (r : Rt) : rowT (l ++ [r]) = rowT l ++ tbCells r := by simp [rowT]
theorem rowT_length : ∀ (l : List Rt), (rowT l).length = l.length * 3
  | [] => rfl
  | m :: l => by rw [rowT_cons]; simp [rowT_length l]; omega
theorem rowT_get : ∀ (l : List Rt) (j : Nat) (m : Rt), l[j]? = some m → (rowT l)[j * 3]? = some (.int .i64 m.2.2.c) ∧ (rowT l)[j * 3 + 1]? = some (tV1 m) ∧ (rowT l)[j * 3 + 2]? = some (tV2 m)
  | [], j, m, h => by simp at h
  | x :: l, 0, m, h => by
    simp at h
    subst h
    exact ⟨rfl, rfl, rfl⟩
  | x :: l, j + 1, m, h => by
    have ih := rowT_get l j m (by simpa using h)
    rw [rowT_cons, show (j + 1) * 3 = j * 3 + 1 + 1 + 1 by omega]
    simpa using ih
theorem rowT_one (l : List Rt) : ∀ u ∈ rowT l, u.oneCell' = true := by
  intro u hu
  obtain ⟨m, _, hm⟩ := List.mem_flatMap.1 hu
  simp [tbCells] at hm
  rcases hm with rfl | rfl | rfl <;> rfl
def tbsR (ls : List Rt) : List Tb := ls.map fun r => r.2.2
theorem tbsR_length (ls : List Rt) : (tbsR ls).length = ls.length := by simp [tbsR]
theorem tbsR_snoc (ls : List Rt) (r : Rt) : tbsR (ls ++ [r]) = tbsR ls ++ [r.2.2] := by simp [tbsR]
/-- The two slices of a table read as its lists, in blocks of F. -/
structure TbIn (F : Nat → Prop) (W : World) (r : Rt) : Prop where
  i : IntsAt W (tV1 r) r.2.2.ts
  s : SpansAt W (tV2 r) r.2.2.ws
  bi : InB F r.2.2.ts.length (tV1 r)
  bs : InB F r.2.2.ws.length (tV2 r)
theorem TbIn.keepF {F : Nat → Prop} {W W' : World} {r : Rt} (h : TbIn F W r) (hs : W.heap.size ≤ W'.heap.size) (hk : ∀ b, b < W.heap.size → F b → W'.heap[b]? = W.heap[b]?) : TbIn F W' r :=
  ⟨ints_block h.i hs fun hn b hb hl => hk b hl (h.bi hn b hb), spans_block h.s hs fun hn b hb hl => hk b hl (h.bs hn b hb), h.bi, h.bs⟩
theorem TbIn.keep {F : Nat → Prop} {W W' : World} {r : Rt} (h : TbIn F W r) (hb : Below W.heap.size W W') : TbIn F W' r := h.keepF hb.size fun b hl _ => hb.block b hl
theorem TbIn.mono {F G : Nat → Prop} {W : World} {r : Rt} (h : TbIn F W r) (hg : ∀ b, b < W.heap.size → F b → G b) : TbIn G W r := by
  refine ⟨h.i, h.s, fun hn b hb => hg b ?_ (h.bi hn b hb), fun hn b hb => hg b ?_ (h.bs hn b hb)⟩
  · obtain ⟨A, c, e, _, h3⟩ := h.i
    obtain ⟨b', off, rfl, hlt, _⟩ := h3 hn
    rw [e] at hb
    cases hb
    exact hlt
  · obtain ⟨A, c, e, _, _, _, h3⟩ := h.s
    obtain ⟨b', off, rfl, hlt, _⟩ := h3 hn
    rw [e] at hb
    cases hb
    exact hlt
def AllTb (F : Nat → Prop) (W : World) (ls : List Rt) : Prop := ∀ r ∈ ls, TbIn F W r
/-- A row of tables of one's own, their slices in blocks of F that are not the row's. -/
structure RowTb (T : Nat) (W : World) (base : Nat) (F : Nat → Prop) (v : Value) (ls : List Rt) : Prop where
  own : W.ownsRow base T 3 v ls.length (rowT ls)
  tbs : AllTb (fun b => F b ∧ v.ownBlock ≠ some b) W ls
theorem RowTb.nil (T : Nat) (W : World) (base : Nat) (F : Nat → Prop) : RowTb T W base F (.slice none 0 0) [] := ⟨World.ownsRow_nil _ _ _ _, fun r hr => by cases hr⟩
theorem RowTb.keep {T : Nat} {W W' : World} {base : Nat} {F : Nat → Prop} {v : Value} {ls : List Rt} (h : RowTb T W base F v ls) (hb : Below W.heap.size W W') : RowTb T W' base F v ls := ⟨own_below5 h.own hb, fun r hr => (h.tbs r hr).keep hb⟩
theorem RowTb.snoc {T : Nat} {W W' : World} {base : Nat} {F : Nat → Prop} {v v' : Value} {ls : List Rt} {r : Rt} (h : RowTb T W base F v ls) (hr : TbIn (fun b => F b ∧ v.ownBlock ≠ some b) W r)
    (ho : W'.ownsRow base T 3 v' (ls.length + 1) (rowT ls ++ tbCells r)) (hg : W.grownBy W' v.ownBlock) (hat : v'.ownBlock = v.ownBlock ∨ v'.ownBlock = some W.heap.size) : RowTb T W' base F v' (ls ++ [r]) := by
  refine ⟨by rw [rowT_snoc, List.length_append]; exact ho, fun q hq => ?_⟩
  have hq' : TbIn (fun b => F b ∧ v.ownBlock ≠ some b) W q := by
    rcases List.mem_append.1 hq with hq | hq
    · exact h.tbs q hq
    · rw [List.mem_singleton.1 hq]; exact hr
  refine ((hq'.mono (G := fun b => b < W.heap.size ∧ F b ∧ v.ownBlock ≠ some b) fun b hb hF => ⟨hb, hF⟩).keepF hg.size (fun b hb hF => hg.block b hb fun e => hF.2.2 e.symm)).mono fun b _ hF => ⟨hF.2.1, fun e => ?_⟩
  rcases hat with hat | hat
  · exact hF.2.2 (hat ▸ e)
  · rw [hat] at e
    have := Option.some.inj e
    omega
/-- The slice value reads as tables. -/
def TabsAt (W : World) (v : Value) (tbs : List Tb) : Prop :=
  ∃ ls : List Rt, tbsR ls = tbs ∧ AllTb Any W ls ∧ ∃ A c, v = .slice A ls.length c ∧ ls.length ≤ c ∧ c ≤ 9223372036854775807 ∧
    (0 < ls.length → ∃ b off, A = some ⟨b, off, none⟩ ∧ b < W.heap.size ∧ ∀ (i : Nat) (u : Value), (rowT ls)[i]? = some u → W.cell? ⟨b, off + i, none⟩ = some u)
theorem TabsAt.keep {W W' : World} {v : Value} {tbs : List Tb} (h : TabsAt W v tbs) (hb : Below W.heap.size W W') : TabsAt W' v tbs := by
  obtain ⟨ls, h1, h2, A, c, h3, h4, h5, h6⟩ := h
  refine ⟨ls, h1, fun r hr => (h2 r hr).keep hb, A, c, h3, h4, h5, fun hn => ?_⟩
  obtain ⟨b, off, e, hlt, hc⟩ := h6 hn
  exact ⟨b, off, e, Nat.lt_of_lt_of_le hlt hb.size, fun j x hx => (hb.cell (p := ⟨b, off + j, none⟩) hlt).trans (hc j x hx)⟩
theorem TabsAt.nil (W : World) : TabsAt W (.slice none 0 0) [] := ⟨[], rfl, fun r hr => (by cases hr), none, 0, rfl, Nat.le_refl _, by decide, fun h => absurd h (by decide)⟩
theorem TabsAt.form {W : World} {v : Value} {tbs : List Tb} (h : TabsAt W v tbs) : ∃ A c, v = .slice A tbs.length c ∧ tbs.length ≤ c ∧ c ≤ 9223372036854775807 := by
  obtain ⟨ls, rfl, _, A, c, h3, h4, h5, _⟩ := h
  rw [tbsR_length]
  exact ⟨A, c, h3, h4, h5⟩
theorem TabsAt.at_ {W : World} {A : Option Addr} {n c : Nat} {tbs : List Tb} (h : TabsAt W (.slice A n c) tbs) {j : Nat} {x : Tb} (hj : tbs[j]? = some x) :
    ∃ b off A1 c1 A2 c2, A = some ⟨b, off, none⟩ ∧ b < W.heap.size ∧ W.cell? ⟨b, off + j * 3, none⟩ = some (.int .i64 x.c) ∧ W.cell? ⟨b, off + j * 3 + 1, none⟩ = some (.slice A1 x.ts.length c1) ∧ W.cell? ⟨b, off + j * 3 + 2, none⟩ = some (.slice A2 x.ws.length c2) ∧
      IntsAt W (.slice A1 x.ts.length c1) x.ts ∧ SpansAt W (.slice A2 x.ws.length c2) x.ws := by
  obtain ⟨ls, rfl, h2, A', c', h3, h4, h5, h6⟩ := h
  injection h3 with e1 e2 e3
  subst e1 e2 e3
  unfold tbsR at hj
  rw [List.getElem?_map] at hj
  obtain ⟨r, hr, rfl⟩ := Option.map_eq_some_iff.1 hj
  have hlt := (List.getElem?_eq_some_iff.1 hr).1
  obtain ⟨b, off, e, hb, hc⟩ := h6 (by omega)
  obtain ⟨g0, g1, g2⟩ := rowT_get ls j r hr
  have hin := h2 r (List.mem_of_getElem? hr)
  exact ⟨b, off, _, _, _, _, e, hb, hc _ _ g0, by rw [Nat.add_assoc]; exact hc _ _ g1, by rw [Nat.add_assoc]; exact hc _ _ g2, hin.i, hin.s⟩
theorem tabs_of_own {T : Nat} {W : World} {base : Nat} {F : Nat → Prop} {v : Value} {ls : List Rt} (h : RowTb T W base F v ls) : TabsAt W v (tbsR ls) := by
  refine ⟨ls, rfl, fun r hr => (h.tbs r hr).mono fun _ _ _ => trivial, ?_⟩
  obtain ⟨h1, h2⟩ := h.own
  rcases h2 with ⟨rfl, h0⟩ | ⟨g, cap, cur, rfl, hg, hh, hn, hc, hs, ht⟩
  · have : ls = [] := List.eq_nil_of_length_eq_zero h0
    subst this
    exact ⟨none, 0, rfl, Nat.le_refl _, by decide, fun h => absurd h (by decide)⟩
  · refine ⟨_, cap, rfl, hn, by unfold maxLen at hc; omega, fun _ => ⟨g, 0, rfl, heap_lt hh, fun i u hu => ?_⟩⟩
    have hi : i < ls.length * 3 := by
      have := (List.getElem?_eq_some_iff.1 hu).1
      rwa [rowT_length] at this
    rw [Nat.zero_add, cell_of_row W g i _ _ (0, 0) hh, ← hu, ← ht, List.getElem?_take, if_pos hi]
    simp
theorem Try.infoTb : (Try.prog.info? 38).map (fun i => (i.zero, i.size, i.bytes)) = some (some (.agg #[.int .i64 0, .slice none 0 0, .slice none 0 0]), 3, 56) := by kernel_rfl
theorem Try.infoTr : (Try.prog.info? 39).map (fun i => (i.zero, i.size, i.bytes)) = some (some (.agg #[.int .i64 0, .slice none 0 0, .slice none 0 0]), 3, 56) := by kernel_rfl
theorem Try.sizeTb (a b c : Value) : (Try.prog.info? 38).map (·.size) = some (#[a, b, c] : Array Value).size := by show _ = some 3; kernel_rfl
theorem Try.sizeTr (a b c : Value) : (Try.prog.info? 39).map (·.size) = some (#[a, b, c] : Array Value).size := by show _ = some 3; kernel_rfl
theorem news_tb (W : World) (t : Nat) (r : Rt) : ∀ j u, (tbCells r)[j]? = some u → (W.alloc (.cells #[.int .i64 r.2.2.c, tV1 r, tV2 r] t)).cell? ((⟨W.heap.size, 0, none⟩ : Addr).add j) = some u := World.news_of_block (heap_alloc_new W _)
/-- What a call answers: these tables. -/
def RetTabs (tbs : List Tb) (w : World) (e : Ending) (w' : World) : Prop := ∃ v, e = .returned v ∧ TabsAt w' v tbs ∧ Below w.heap.size w w'
end Go.Proofs.Ytpjmdnhoiobedaa
