/-
  with of the document: a table with one slot written anew.
  Conditions: where the table lies; its numbers are small.
-/
import Derived.Test.YtgpbgakijjdkoaaWhich
import Derived.Deep.Cut
import Derived.Deep.CutRange
import Derived.Laws.ResultCell
set_option linter.unusedVariables false
namespace Go.Proofs.Ytgpbgakijjdkoaa
open Go.RowKit TI

def refCells (r : Rs) : Nat → List Value
  | 0 => []
  | i + 1 => refCells r i ++ [.int .i64 (r.X i), .bool (r.tk i), .int .i64 (r.fd i), .int .i64 (r.wh i)]
theorem refCells_length (r : Rs) : ∀ m, (refCells r m).length = m * 4
  | 0 => rfl
  | m + 1 => by
    unfold refCells
    rw [List.length_append, refCells_length r m]
    simp
    omega
theorem refCells_get (r : Rs) : ∀ m i, i < m → (refCells r m)[i * 4]? = some (.int .i64 (r.X i)) ∧ (refCells r m)[i * 4 + 1]? = some (.bool (r.tk i)) ∧ (refCells r m)[i * 4 + 2]? = some (.int .i64 (r.fd i)) ∧ (refCells r m)[i * 4 + 3]? = some (.int .i64 (r.wh i))
  | 0, i, h => absurd h (Nat.not_lt_zero i)
  | m + 1, i, h => by
    have hl := refCells_length r m
    unfold refCells
    by_cases e : i = m
    · subst e
      rw [List.getElem?_append_right (by omega), List.getElem?_append_right (by omega), List.getElem?_append_right (by omega), List.getElem?_append_right (by omega), hl, show i * 4 - i * 4 = 0 by omega, show i * 4 + 1 - i * 4 = 1 by omega, show i * 4 + 2 - i * 4 = 2 by omega, show i * 4 + 3 - i * 4 = 3 by omega]
      exact ⟨rfl, rfl, rfl, rfl⟩
    · rw [List.getElem?_append_left (by omega), List.getElem?_append_left (by omega), List.getElem?_append_left (by omega), List.getElem?_append_left (by omega)]
      exact refCells_get r m i (by omega)
theorem refCells_one (r : Rs) : ∀ m, ∀ u ∈ refCells r m, u.oneCell' = true
  | 0, u, h => by cases h
  | m + 1, u, h => by
    unfold refCells at h
    rcases List.mem_append.1 h with h | h
    · exact refCells_one r m u h
    · simp at h
      rcases h with rfl | rfl | rfl | rfl <;> rfl
theorem refCells_at {W : World} {b : Nat} {r : Rs} (h : RefAt W b r) : ∀ j u, (refCells r r.n)[j]? = some u → W.cell? ((⟨b, 0, none⟩ : Addr).add j) = some u := by
  intro j u hj
  have hlt : j < r.n * 4 := by
    have := (List.getElem?_eq_some_iff.1 hj).1
    rwa [refCells_length] at this
  obtain ⟨c0, c1, c2, c3⟩ := h.at_ (j / 4) (by omega)
  obtain ⟨d0, d1, d2, d3⟩ := refCells_get r r.n (j / 4) (by omega)
  rw [Go.WideShapes.add_plain, Nat.zero_add]
  rcases (show j = j / 4 * 4 ∨ j = j / 4 * 4 + 1 ∨ j = j / 4 * 4 + 2 ∨ j = j / 4 * 4 + 3 by omega) with e | e | e | e
  · rw [e] at hj ⊢; rw [d0] at hj; rw [c0]; exact hj
  · rw [e] at hj ⊢; rw [d1] at hj; rw [c1]; exact hj
  · rw [e] at hj ⊢; rw [d2] at hj; rw [c2]; exact hj
  · rw [e] at hj ⊢; rw [d3] at hj; rw [c3]; exact hj

/-- A table of the call's own: its slots may be written. -/
def RefOwn (W : World) (g : Nat) (r : Rs) : Prop := ∃ cur, W.heap[g]? = some (.cells cur 47 (0, 0)) ∧ r.n * 4 ≤ cur.size ∧
  ∀ i, i < r.n → cur[i * 4]? = some (.int .i64 (r.X i)) ∧ cur[i * 4 + 1]? = some (.bool (r.tk i)) ∧ cur[i * 4 + 2]? = some (.int .i64 (r.fd i)) ∧ cur[i * 4 + 3]? = some (.int .i64 (r.wh i))
theorem RefOwn.ref {W : World} {g : Nat} {r : Rs} (h : RefOwn W g r) : RefAt W g r := by
  obtain ⟨cur, e, _, hc⟩ := h
  refine ⟨heap_lt e, fun i hi => ?_⟩
  obtain ⟨c0, c1, c2, c3⟩ := hc i hi
  refine ⟨?_, ?_, ?_, ?_⟩ <;> rw [cell_of_row W g _ _ _ (0, 0) e] <;> assumption
theorem RefOwn.frozen {W : World} {g : Nat} {r : Rs} (h : RefOwn W g r) (j : Nat) : W.frozen? ⟨g, j, none⟩ = false := by
  obtain ⟨cur, e, _⟩ := h
  simp [World.frozen?, e]
def putR (r : Rs) (i : Nat) (x : Int) (t : Bool) (fd wh : Nat) : Rs := { r with X := upd r.X i x, tk := upd r.tk i t, fd := upd r.fd i fd, wh := upd r.wh i wh, clk := r.clk + 1 }
theorem RefOwn.put {W : World} {g i : Nat} {r : Rs} (h : RefOwn W g r) (hi : i < r.n) (x : Int) (t : Bool) (fd wh : Nat) :
    RefOwn ((((W.setCell ⟨g, i * 4, none⟩ (.int .i64 x)).setCell ⟨g, i * 4 + 1, none⟩ (.bool t)).setCell ⟨g, i * 4 + 2, none⟩ (.int .i64 fd)).setCell ⟨g, i * 4 + 3, none⟩ (.int .i64 wh)) g (putR r i x t fd wh) := by
  obtain ⟨cur, e, hs, hc⟩ := h
  refine ⟨_, heap_setCell_at _ _ _ _ _ _ _ (heap_setCell_at _ _ _ _ _ _ _ (heap_setCell_at _ _ _ _ _ _ _ (heap_setCell_at _ _ _ _ _ _ _ e))), by show r.n * 4 ≤ _; simpa using hs, fun j hj => ?_⟩
  obtain ⟨c0, c1, c2, c3⟩ := hc j hj
  have b0 : i * 4 < cur.size := by omega
  have b1 : i * 4 + 1 < (cur.setIfInBounds (i * 4) (.int .i64 x)).size := by rw [Array.size_setIfInBounds]; omega
  have b2 : i * 4 + 2 < ((cur.setIfInBounds (i * 4) (.int .i64 x)).setIfInBounds (i * 4 + 1) (.bool t)).size := by rw [Array.size_setIfInBounds, Array.size_setIfInBounds]; omega
  have b3 : i * 4 + 3 < (((cur.setIfInBounds (i * 4) (.int .i64 x)).setIfInBounds (i * 4 + 1) (.bool t)).setIfInBounds (i * 4 + 2) (.int .i64 fd)).size := by rw [Array.size_setIfInBounds, Array.size_setIfInBounds, Array.size_setIfInBounds]; omega
  simp only [arr_set b3, arr_set b2, arr_set b1, arr_set b0]
  show _ = some (Value.int .i64 (upd r.X i x j)) ∧ _ = some (Value.bool (upd r.tk i t j)) ∧ _ = some (Value.int .i64 ((upd r.fd i fd j : Nat) : Int)) ∧ _ = some (Value.int .i64 ((upd r.wh i wh j : Nat) : Int))
  unfold upd
  by_cases ej : j = i
  · subst ej
    refine ⟨?_, ?_, ?_, ?_⟩
    · rw [if_neg (by omega), if_neg (by omega), if_neg (by omega), if_pos rfl, if_pos rfl]
    · rw [if_neg (by omega), if_neg (by omega), if_pos rfl, if_pos rfl]
    · rw [if_neg (by omega), if_pos rfl, if_pos rfl]
    · rw [if_pos rfl, if_pos rfl]
  · refine ⟨?_, ?_, ?_, ?_⟩
    · rw [if_neg (by omega), if_neg (by omega), if_neg (by omega), if_neg (by omega), if_neg ej]; exact c0
    · rw [if_neg (by omega), if_neg (by omega), if_neg (by omega), if_neg (by omega), if_neg ej]; exact c1
    · rw [if_neg (by omega), if_neg (by omega), if_neg (by omega), if_neg (by omega), if_neg ej]; exact c2
    · rw [if_neg (by omega), if_neg (by omega), if_neg (by omega), if_neg (by omega), if_neg ej]; exact c3
theorem refOwn_of {W : World} {base : Nat} {v : Value} {r : Rs} (h : W.ownsRow base 47 4 v r.n (refCells r r.n)) (hn : 0 < r.n) :
    ∃ g cap, v = .slice (some ⟨g, 0, none⟩) r.n cap ∧ base ≤ g ∧ r.n ≤ cap ∧ RefOwn W g r := by
  obtain ⟨h1, h2⟩ := h
  rcases h2 with ⟨_, h0⟩ | ⟨g, cap, cur, rfl, hg, hh, hnc, hc, hs, ht⟩
  · omega
  · refine ⟨g, cap, rfl, hg, hnc, cur, hh, by omega, fun i hi => ?_⟩
    have key : ∀ j, j < r.n * 4 → cur[j]? = (refCells r r.n)[j]? := fun j hj => by
      rw [← ht, List.getElem?_take, if_pos hj]
      simp
    obtain ⟨d0, d1, d2, d3⟩ := refCells_get r r.n i hi
    rw [key _ (by omega), key _ (by omega), key _ (by omega), key _ (by omega)]
    exact ⟨d0, d1, d2, d3⟩

theorem three_new (W : World) (a b c : Array Value) (s t u : TypeId) (j : Nat) :
    (((W.alloc (.cells a s)).alloc (.cells b t)).alloc (.cells c u)).cell? ⟨W.heap.size, j, none⟩ = a[j]? ∧ (((W.alloc (.cells a s)).alloc (.cells b t)).alloc (.cells c u)).cell? ⟨W.heap.size + 1, j, none⟩ = b[j]? ∧
    (((W.alloc (.cells a s)).alloc (.cells b t)).alloc (.cells c u)).cell? ⟨W.heap.size + 1 + 1, j, none⟩ = c[j]? ∧ (((W.alloc (.cells a s)).alloc (.cells b t)).alloc (.cells c u)).frozen? ⟨W.heap.size + 1 + 1, j, none⟩ = false := by
  have s1 : (W.alloc (.cells a s)).heap.size = W.heap.size + 1 := World.size_alloc _ _
  have s2 : ((W.alloc (.cells a s)).alloc (.cells b t)).heap.size = W.heap.size + 2 := by rw [World.size_alloc, s1]
  have b1 : Below (W.heap.size + 1) (W.alloc (.cells a s)) (((W.alloc (.cells a s)).alloc (.cells b t)).alloc (.cells c u)) := ((Below.refl _ _).alloc (by omega) _).alloc (by omega) _
  have b2 : Below (W.heap.size + 2) ((W.alloc (.cells a s)).alloc (.cells b t)) (((W.alloc (.cells a s)).alloc (.cells b t)).alloc (.cells c u)) := (Below.refl _ _).alloc (by omega) _
  refine ⟨?_, ?_, ?_, ?_⟩
  · rw [b1.cell (p := ⟨W.heap.size, j, none⟩) (Nat.lt_succ_self _), World.cell?_alloc_new]
  · rw [b2.cell (p := ⟨W.heap.size + 1, j, none⟩) (Nat.lt_succ_self _), ← s1, World.cell?_alloc_new]
  · rw [show W.heap.size + 1 + 1 = W.heap.size + 2 from rfl, ← s2, World.cell?_alloc_new]
  · rw [show W.heap.size + 1 + 1 = W.heap.size + 2 from rfl, ← s2, World.frozen?_alloc_new]

theorem results_row_tmp {P : Program} {fn : Func} {p u : Tmp} {ty : TypeId} (h : fn.results = #[.cell p ty, .tmp u]) (tmps : Array Value) (w : World) (g : Nat) (t : TypeId) (cs : Array Value) (fr : Nat × Nat) (d : TypeDesc)
    (hp : tmps.getD p undef = .pointer (some ⟨g, 0, none⟩)) (hg : w.heap[g]? = some (.cells cs t fr))
    (hu : P.underlying ty = some d) (hd : (match d with | .struct _ | .array _ _ => true | _ => false) = true) (hi : (P.info? ty).map (·.size) = some cs.size) (x : Value) (hx : tmps.getD u undef = x) :
    (results fn tmps).run P w = .ok (.tuple #[.agg cs, x]) w := by
  rw [results_cell_tmp h, hp, hx]
  simp [asAddr, run_loadVar_row w g t ty cs fr d hg hu hd hi, Result.andThen]
theorem Try.sizeTable (a b : Value) : (Try.prog.info? 30).map (·.size) = some (#[a, b] : Array Value).size := by
  show _ = some 2
  kernel_rfl
theorem two_set {w : World} {g : Nat} {a b : Value} {t : TypeId} (h : w.heap[g]? = some (.cells #[a, b] t (0, 0))) (c d : Value) :
    ((w.setCell ⟨g, 0, none⟩ c).setCell ⟨g, 1, none⟩ d).heap[g]? = some (.cells #[c, d] t (0, 0)) :=
  heap_setCell_at _ _ _ _ _ _ _ (heap_setCell_at _ _ _ _ _ _ _ h)

set_option maxRecDepth 100000 in
set_option maxHeartbeats 16000000 in
theorem with_any (W : World) (b c : Nat) (r : Rs) (i : Nat) (x : Int) (t : Bool) (fd wh : Nat) (h : RefAt W b r) (hf : Few r) (hi : i < r.n) :
    Calls Try.prog 33 #[refV b c r, .int .i64 ((i + 1 : Nat) : Int), .agg #[.int .i64 x, .bool t, .int .i64 fd, .int .i64 wh]] W (RetR (putR r i x t fd wh) id W) := by
  obtain ⟨i0, hi0, hz0, hz1, hz2⟩ := info_parts Try.infoRef
  unfold refV
  obtain ⟨q, hq⟩ : ∃ q, i + 1 = q := ⟨_, rfl⟩
  rw [hq]
  obtain ⟨w0, hw0⟩ : ∃ w0, ((W.alloc (.cells #[.slice (some ⟨b, 0, none⟩) r.n c, .int .i64 r.clk] 30)).alloc (.cells #[.int .i64 x, .bool t, .int .i64 fd, .int .i64 wh] 47)).alloc (.cells #[.slice none 0 0, .int .i64 0] 30) = w0 := ⟨_, rfl⟩
  have HB0 := Lib.hid (show Below W.heap.size W w0 by rw [← hw0]; exact (((Below.refl _ _).alloc (Nat.le_refl _) _).alloc (by rw [World.size_alloc]; omega) _).alloc (by rw [World.size_alloc, World.size_alloc]; omega) _)
  have hs0 : w0.heap.size = W.heap.size + 3 := by rw [← hw0, World.size_alloc, World.size_alloc, World.size_alloc]
  have hnew := fun j => by have := three_new W #[.slice (some ⟨b, 0, none⟩) r.n c, .int .i64 r.clk] #[.int .i64 x, .bool t, .int .i64 fd, .int .i64 wh] #[.slice none 0 0, .int .i64 0] 30 47 30 j; rw [hw0] at this; exact this
  have ho := heap_alloc_new ((W.alloc (.cells #[.slice (some ⟨b, 0, none⟩) r.n c, .int .i64 r.clk] 30)).alloc (.cells #[.int .i64 x, .bool t, .int .i64 fd, .int .i64 wh] 47)) (.cells #[.slice none 0 0, .int .i64 0] 30)
  rw [hw0, World.size_alloc, World.size_alloc] at ho
  have HHO := Lib.hid ho
  clear ho
  have HR0 := Lib.hid (h.below HB0.out)
  have HF := Lib.hid hf
  have HI := Lib.hid hi
  have HS0 := Lib.hid hs0
  have hclk := hf.clk
  go_enter Try.func33, Try.ntmps33
  go_upto_region 1 with fail
  obtain ⟨n, hnn⟩ : ∃ n, r.n = n := ⟨_, rfl⟩
  have HNN := Lib.hid hnn
  have hn1 := hf.n1
  have hn0 := hf.n0
  rw [hnn] at hi hn1 hn0 hnew
  obtain ⟨clk, hck⟩ : ∃ n, r.clk = n := ⟨_, rfl⟩
  have HCK := Lib.hid hck
  rw [hck] at hclk hnew
  have g0 := (hnew 0).1
  have g1 := (hnew 1).1
  have s0 := (hnew 0).2.1
  have s1 := (hnew 1).2.1
  have s2 := (hnew 2).2.1
  have s3 := (hnew 3).2.1
  have o0 := (hnew 0).2.2.1
  have o1 := (hnew 1).2.2.1
  have of0 := (hnew 0).2.2.2
  have of1 := (hnew 1).2.2.2
  simp only [List.getElem?_toArray, List.getElem?_cons_zero, List.getElem?_cons_succ] at g0 g1 s0 s1 s2 s3 o0 o1
  have y1 : (q : Int) - 1 = (i : Int) := by omega
  have y2 : (i : Int) < (n : Int) := Int.ofNat_lt.2 hi
  have y3 : wrap64 (i : Int) = (i : Int) := wrap64_nat (by omega)
  rw [hnn, hck]
  obtain ⟨p, hp⟩ : ∃ p, W.heap.size = p := ⟨_, rfl⟩
  have HP := Lib.hid hp
  rw [hp] at g0 g1 s0 s1 s2 s3 o0 o1 of0 of1 hs0 ⊢
  have KB := Lib.hid (show 0 + n ≤ 100000 by omega)
  have HW0 := Lib.hid hs0
  clear hw0 hnew hnn hck hp hq h hf hi HS0 hs0
  have hcr := Lib.hid (refCells_at HR0.out)
  have l0 : p < w0.heap.size := by have := HW0.out; omega
  have l1 : p + 1 < w0.heap.size := by have := HW0.out; omega
  have l2 : p + 1 + 1 < w0.heap.size := by have := HW0.out; omega
  go_wp2_with (at_builtin; refine wpList_append_own _ rfl _ _ 28 rfl w0.heap.size 47 i0 (.agg #[.int .i64 0, .bool false, .int .i64 0, .int .i64 0]) 4 32 Try.underlying28 hi0 hz0 hz1 hz2 rfl (by decide) (.slice (some ⟨w0.heap.size, 0, none⟩) 0 0) 0 [] rfl ?own ⟨b, 0, none⟩ n c (refCells r r.n) rfl ?c1 ?c2 (refCells_one _ _) ?c3 ?c4 ?c5 ?_)
  case own => exact ⟨rfl, .inr ⟨w0.heap.size, 0, #[], rfl, Nat.le_refl _, heap_alloc_new w0 _, Nat.le_refl _, Nat.zero_le _, rfl, rfl⟩⟩
  case c2 => exact fun j u hj => (((Below.refl w0.heap.size w0).alloc (Nat.le_refl _) _).cell (p := (⟨b, 0, none⟩ : Addr).add j) (by rw [Go.WideShapes.add_plain]; exact HR0.out.lt)).trans (hcr.out j u hj)
  case c1 => rw [refCells_length, HNN.out]
  case c3 => exact len_small KB.out
  case c4 => exact bytes_small 32 (by decide) KB.out
  case c5 => exact Nat.le_trans (Nat.le_succ _) (Nat.le_of_eq (World.size_alloc _ _).symm)
  intro v2 w2 hown hgrow _
  have hown2 : w2.ownsRow w0.heap.size 47 4 v2 r.n (refCells r r.n) := by
    rw [HNN.out] at hown ⊢
    exact hown
  have HB2 := Lib.hid (((Below.refl w0.heap.size w0).alloc (Nat.le_refl _) (.cells #[] 47)).trans (below_grown hgrow (Nat.le_trans (Nat.le_succ _) (Nat.le_of_eq (World.size_alloc _ _).symm)) (fun k hk => Nat.le_of_eq (Option.some.inj hk))))
  obtain ⟨g, cap, rfl, hg, hcap, hro⟩ := refOwn_of hown2 HF.out.n0
  have HRO := Lib.hid hro
  have HGE := Lib.hid hg
  have HCAP := Lib.hid hcap
  rw [HNN.out]
  have HL0 := Lib.hid l0
  have HL1 := Lib.hid l1
  have HL2 := Lib.hid l2
  have h1 := (HB2.out.cell (p := ⟨p, 1, none⟩) l0).trans g1
  have t0 := (HB2.out.cell (p := ⟨p + 1, 0, none⟩) l1).trans s0
  have t1 := (HB2.out.cell (p := ⟨p + 1, 1, none⟩) l1).trans s1
  have t2 := (HB2.out.cell (p := ⟨p + 1, 2, none⟩) l1).trans s2
  have t3 := (HB2.out.cell (p := ⟨p + 1, 3, none⟩) l1).trans s3
  obtain ⟨_, hr4⟩ := hro.ref
  obtain ⟨k0, k1, k2, k3⟩ := hr4 i HI.out
  generalize r.X i = x0 at k0
  generalize r.tk i = tk0 at k1
  generalize r.fd i = fd0 at k2
  generalize r.wh i = wh0 at k3
  have f0 := hro.frozen (i * 4)
  have f1 := hro.frozen (i * 4 + 1)
  have f2 := hro.frozen (i * 4 + 2)
  have f3 := hro.frozen (i * 4 + 3)
  have HOO := Lib.hid (And.intro o0 (And.intro o1 (And.intro of0 of1)))
  clear hown hgrow hown2 hro hg hcap hr4 g0 g1 s0 s1 s2 s3 o0 o1 of0 of1 l0 l1 l2 hcr
  go_upto_region 3 with fail
  have HPUT := Lib.hid (HRO.out.put HI.out x t fd wh)
  have HFAR := Lib.hid (show ∀ k, k ≠ g → ((((w2.setCell ⟨g, i * 4, none⟩ (.int .i64 x)).setCell ⟨g, i * 4 + 1, none⟩ (.bool t)).setCell ⟨g, i * 4 + 2, none⟩ (.int .i64 fd)).setCell ⟨g, i * 4 + 3, none⟩ (.int .i64 wh)).heap[k]? = w2.heap[k]? from fun k hk =>
    (Below.heap_setCell _ _ _ _ hk).trans ((Below.heap_setCell _ _ _ _ hk).trans ((Below.heap_setCell _ _ _ _ hk).trans (Below.heap_setCell _ _ _ _ hk))))
  have HB3 := Lib.hid (show Below w0.heap.size w0 ((((w2.setCell ⟨g, i * 4, none⟩ (.int .i64 x)).setCell ⟨g, i * 4 + 1, none⟩ (.bool t)).setCell ⟨g, i * 4 + 2, none⟩ (.int .i64 fd)).setCell ⟨g, i * 4 + 3, none⟩ (.int .i64 wh)) from
    (((HB2.out.setCell (p := ⟨g, i * 4, none⟩) HGE.out _).setCell (p := ⟨g, i * 4 + 1, none⟩) HGE.out _).setCell (p := ⟨g, i * 4 + 2, none⟩) HGE.out _).setCell (p := ⟨g, i * 4 + 3, none⟩) HGE.out _)
  generalize hw3 : (((w2.setCell ⟨g, i * 4, none⟩ (.int .i64 x)).setCell ⟨g, i * 4 + 1, none⟩ (.bool t)).setCell ⟨g, i * 4 + 2, none⟩ (.int .i64 fd)).setCell ⟨g, i * 4 + 3, none⟩ (.int .i64 wh) = w3 at HPUT HFAR HB3 ⊢
  have n0 : p ≠ g := by have := HL0.out; have := HGE.out; omega
  have n2 : p + 1 + 1 ≠ g := by have := HL2.out; have := HGE.out; omega
  have j1 := (cell_of_same (HFAR.out p n0) 1).trans h1
  have e0 := (HB3.out.block (p + 1 + 1) HL2.out)
  have o0 := (cell_of_same e0 0).trans HOO.out.1
  have o1 := (cell_of_same e0 1).trans HOO.out.2.1
  have of0 : w3.frozen? ⟨p + 1 + 1, 0, none⟩ = false := by have := HOO.out.2.2.1; unfold World.frozen? at this ⊢; rw [e0]; exact this
  have of1 : w3.frozen? ⟨p + 1 + 1, 1, none⟩ = false := by have := HOO.out.2.2.2; unfold World.frozen? at this ⊢; rw [e0]; exact this
  clear hw3 n0 h1 t0 t1 t2 t3 k0 k1 k2 k3 f0 f1 f2 f3
  go_wp2_with fail
  have hres := two_set (e0.trans (by rw [← HP.out]; exact HHO.out)) (.slice (some ⟨g, 0, none⟩) n cap) (.int .i64 (clk + 1))
  refine bodyPost_ret (v := .agg #[.slice (some ⟨g, 0, none⟩) n cap, .int .i64 (clk + 1)]) (results_cell_row rfl _ _ (p + 1 + 1) _ _ _ _ rfl hres Try.underlying30 rfl (Try.sizeTable _ _)) rfl ?_
  refine ⟨g, cap, ?_, HCAP.out, ?_, ?_, ?_⟩
  · unfold refV putR
    rw [HNN.out, HCK.out]
    rfl
  · exact HPUT.out.ref.keep (by simp [World.setCell]) ((Below.heap_setCell _ _ _ _ (fun e => n2 e.symm)).trans (Below.heap_setCell _ _ _ _ (fun e => n2 e.symm)))
  · rw [HP.out]; have := HGE.out; have := HW0.out; omega
  · have hle : W.heap.size ≤ p + 1 + 1 := by rw [HP.out]; omega
    exact ((HB0.out.trans (HB3.out.mono (by rw [HP.out, HW0.out]; omega))).setCell (p := ⟨p + 1 + 1, 0, none⟩) hle _).setCell (p := ⟨p + 1 + 1, 1, none⟩) hle _
end Go.Proofs.Ytgpbgakijjdkoaa
