/-
  The document's local in a block, and the block of what a call answers; its Begin.
  Conditions: the numbers are small.
-/
import Derived.Test.YtngfcgegondmgaaRefBase
import Derived.Laws.MakeOwn
set_option linter.unusedVariables false
namespace Go.Proofs.Ytngfcgegondmgaa
open Go.RowKit

theorem results_row_tmp {P : Program} {fn : Func} {p u : Tmp} {ty : TypeId} (h : fn.results = #[.cell p ty, .tmp u]) (tmps : Array Value) (w : World) (g : Nat) (t : TypeId) (cs : Array Value) (fr : Nat × Nat) (d : TypeDesc)
    (hp : tmps.getD p undef = .pointer (some ⟨g, 0, none⟩)) (hg : w.heap[g]? = some (.cells cs t fr))
    (hu : P.underlying ty = some d) (hd : (match d with | .struct _ | .array _ _ => true | _ => false) = true) (hi : (P.info? ty).map (·.size) = some cs.size) (x : Value) (hx : tmps.getD u undef = x) :
    (results fn tmps).run P w = .ok (.tuple #[.agg cs, x]) w := by
  rw [results_cell_tmp h, hp, hx]
  simp [asAddr, run_loadVar_row w g t ty cs fr d hg hu hd hi, Result.andThen]
theorem alloc_block (W : World) (o : Obj) {B : Nat} (h : W.heap.size = B) : (W.alloc o).heap[B]? = some o := by subst h; exact heap_alloc_new W o
theorem keep_block {W W' : World} {B : Nat} {o : Obj} (h : W.heap[B]? = some o) (hb : Below W.heap.size W W') : W'.heap[B]? = some o := (hb.block B (heap_lt h)).trans h
/-- A row lies in no block of another kind. -/
theorem own_ne {w : World} {base e size n N T : Nat} {v : Value} {xs : List Value} {cs : Array Value} (h : w.ownsRow base e size v n xs) (hN : w.heap[N]? = some (.cells cs T (0, 0))) (hT : e ≠ T) : v.ownBlock ≠ some N := fun k => by
  rcases h.2 with ⟨h1, _⟩ | ⟨g, cap, cur, h1, _, hh, _⟩
  · subst h1; cases k
  · subst h1
    cases k
    rw [hN] at hh
    injection hh with hh
    injection hh with _ hh _
    exact hT hh.symm
theorem RefOwn.set {w : World} {vL vG : Value} {l : List Lm} {N o : Nat} {cs : Array Value} {T : Nat} (h : RefOwn w vL vG l) (hN : w.heap[N]? = some (.cells cs T (0, 0))) (h1 : 50 ≠ T) (h2 : 3 ≠ T) (u : Value) : RefOwn (w.setCell ⟨N, o, none⟩ u) vL vG l :=
  ⟨own_keep h.ws fun k hk => Below.heap_setCell _ _ _ _ (show k ≠ N from fun e => own_ne h.ws hN h1 (by rw [← e]; exact hk)), own_keep h.gs fun k hk => Below.heap_setCell _ _ _ _ (show k ≠ N from fun e => own_ne h.gs hN h2 (by rw [← e]; exact hk))⟩
/-- What a call of the document's answers. -/
def RefPost (W : World) (l : List Lm) (e : Ending) (w' : World) : Prop := ∃ vL vG, e = .returned (.agg #[vL, vG]) ∧ RefOwn w' vL vG l ∧ Below W.heap.size W w'
def RefPostE (W : World) (l : List Lm) (x : Value) (e : Ending) (w' : World) : Prop := ∃ vL vG, e = .returned (.tuple #[.agg #[vL, vG], x]) ∧ RefOwn w' vL vG l ∧ Below W.heap.size W w'
/-- The block of what was handed in, and the answer's. -/
structure Box (W w : World) (N : Nat) (a b : Value) : Prop where
  box : w.heap[N]? = some (.cells #[a, b] 32 (0, 0))
  res : w.heap[N + 1]? = some (.cells #[.slice none 0 0, .slice none 0 0] 32 (0, 0))
  bel : Below W.heap.size W w
  n : W.heap.size = N
theorem box_new (W : World) (a b : Value) : Box W ((W.alloc (.cells #[a, b] 32)).alloc (.cells #[.slice none 0 0, .slice none 0 0] 32)) W.heap.size a b := by
  have h1 := (Below.refl W.heap.size W).alloc (Nat.le_refl _) (.cells #[a, b] 32)
  have h2 := (Below.refl (W.alloc (.cells #[a, b] 32)).heap.size _).alloc (Nat.le_refl _) (.cells #[.slice none 0 0, .slice none 0 0] 32)
  exact ⟨keep_block (alloc_block W _ rfl) h2, alloc_block _ _ (by simp), h1.trans (h2.mono h1.size), rfl⟩
theorem Box.below {W w w' : World} {N : Nat} {a b : Value} (h : Box W w N a b) (hb : Below w.heap.size w w') : Box W w' N a b :=
  ⟨keep_block h.box hb, keep_block h.res hb, h.bel.trans (hb.mono h.bel.size), h.n⟩
theorem Box.lt {W w : World} {N : Nat} {a b : Value} (h : Box W w N a b) : N + 1 < w.heap.size := heap_lt h.res
/-- A field is given another value. -/
theorem Box.set0 {W w : World} {N : Nat} {a b : Value} (h : Box W w N a b) (x : Value) : Box W (w.setCell ⟨N, 0, none⟩ x) N x b := by
  have hn := h.n
  exact ⟨heap_setCell_mem _ _ _ _ _ _ _ h.box, (Below.heap_setCell _ _ _ _ (show N + 1 ≠ N by omega)).trans h.res, h.bel.setCell (p := ⟨N, 0, none⟩) (by show _ ≤ N; omega) _, hn⟩
theorem Box.set1 {W w : World} {N : Nat} {a b : Value} (h : Box W w N a b) (x : Value) : Box W (w.setCell ⟨N, 1, none⟩ x) N a x := by
  have hn := h.n
  exact ⟨heap_setCell_mem _ _ _ _ _ _ _ h.box, (Below.heap_setCell _ _ _ _ (show N + 1 ≠ N by omega)).trans h.res, h.bel.setCell (p := ⟨N, 1, none⟩) (by show _ ≤ N; omega) _, hn⟩
/-- The answer is laid. -/
theorem Box.done {W w : World} {N : Nat} {a b x y : Value} {l : List Lm} (h : Box W w N a b) (hr : RefOwn w x y l) :
    ((w.setCell ⟨N + 1, 0, none⟩ x).setCell ⟨N + 1, 1, none⟩ y).heap[N + 1]? = some (.cells #[x, y] 32 (0, 0)) ∧
    RefOwn ((w.setCell ⟨N + 1, 0, none⟩ x).setCell ⟨N + 1, 1, none⟩ y) x y l ∧ Below W.heap.size W ((w.setCell ⟨N + 1, 0, none⟩ x).setCell ⟨N + 1, 1, none⟩ y) := by
  have hn := h.n
  have h1 := heap_setCell_mem _ _ 0 _ _ _ x h.res
  refine ⟨heap_setCell_mem _ _ _ _ _ _ _ h1, (hr.set (o := 0) h.res (by decide) (by decide) x).set (o := 1) h1 (by decide) (by decide) y, ?_⟩
  exact (h.bel.setCell (p := ⟨N + 1, 0, none⟩) (by show _ ≤ N + 1; omega) _).setCell (p := ⟨N + 1, 1, none⟩) (by show _ ≤ N + 1; omega) _

theorem gC_begin : ∀ l : List Lm, gC (beginT l) = List.replicate l.length (.int .i64 0)
  | [] => rfl
  | m :: l => by
    show _ :: gC (beginT l) = _
    rw [gC_begin l]
    rfl
theorem made_one (m : Nat) : madeCells #[.int .i64 0] m = (List.replicate m (Value.int .i64 0)).toArray := by
  apply Array.ext
  · simp [madeCells]
  · intro i h1 h2
    have h4 : i % 1 = 0 := Nat.mod_one i
    simp [madeCells, h4]
theorem mk_ints (W : World) (n : Nat) (h : n ≤ 1000) : (Instr.makeSlice 30 (.int .i64 (n : Int)) (.int .i64 (n : Int))).run Try.prog W = .ok (.slice (some ⟨W.heap.size, 0, none⟩) n n) (W.alloc (.cells (List.replicate n (Value.int .i64 0)).toArray 3)) := by
  obtain ⟨i, hi, e⟩ := Option.map_eq_some_iff.1 Try.infoInt
  simp only [Prod.mk.injEq] at e
  obtain ⟨e1, e2, e3⟩ := e
  have hr := run_make (P := Try.prog) W 30 3 i (.int .i64 0) Try.underlying30 hi e1 .i64 .i64 n n (by omega) (Int.le_refl _) (by rw [e3]; omega) (by omega)
  rw [hr, e2]
  simp only [Int.toNat_natCast, Nat.mul_one]
  rw [show (Value.int .i64 0).cells = #[.int .i64 0] from rfl, made_one]
theorem begin_len (l : List Lm) : (beginT l).length = l.length := by unfold beginT; rw [List.length_map]
theorem wants_begin (l : List Lm) : wantsT (beginT l) = wantsT l := by unfold wantsT beginT; rw [List.map_map]; rfl

set_option maxRecDepth 100000 in
theorem refBegin_any (W : World) (vL vG : Value) (l : List Lm) (h : RefOwn W vL vG l) (hl : l.length ≤ 1000) :
    Calls Try.prog 15 #[.agg #[vL, vG]] W (RefPost W (beginT l)) := by
  have HR := Lib.hid h
  obtain ⟨A, c, hvL⟩ := own_form h.ws
  obtain ⟨B, d, hvG⟩ := own_form h.gs
  subst hvL hvG
  obtain ⟨n, hn⟩ : ∃ n, l.length = n := ⟨_, rfl⟩
  rw [hn] at HR hl ⊢
  have HN := Lib.hid hn
  obtain ⟨N, hN⟩ : ∃ N, W.heap.size = N := ⟨_, rfl⟩
  obtain ⟨w2, hw2⟩ : ∃ w2, (W.alloc (.cells #[.slice A n c, .slice B n d] 32)).alloc (.cells #[.slice none 0 0, .slice none 0 0] 32) = w2 := ⟨_, rfl⟩
  have HX : Hid (Box W w2 N (.slice A n c) (.slice B n d)) := by rw [← hw2, ← hN]; exact box_new W _ _
  have HR2 := Lib.hid (HR.out.below HX.out.bel)
  have hmk := mk_ints w2 n hl
  obtain ⟨M, hM⟩ : ∃ M, w2.heap.size = M := ⟨_, rfl⟩
  obtain ⟨w3, hw3⟩ : ∃ w3, w2.alloc (.cells (List.replicate n (Value.int .i64 0)).toArray 3) = w3 := ⟨_, rfl⟩
  have hb3 : Below w2.heap.size w2 w3 := by rw [← hw3]; exact (Below.refl _ w2).alloc (Nat.le_refl _) _
  have HX3 := Lib.hid (HX.out.below hb3)
  have HG3 : Hid (RowG w3 (.slice (some ⟨M, 0, none⟩) n n) (beginT l)) := by
    have := own_made w2 0 3 1 n (List.replicate n (Value.int .i64 0)) (by simp) (Nat.zero_le _) hl
    rw [hw3, hM] at this
    show w3.ownsRow 0 _ 1 _ (beginT l).length (gC (beginT l))
    rw [begin_len, gC_begin, HN.out]
    exact this
  have HW3 : Hid (RowW w3 (.slice A n c) (beginT l)) := by
    show w3.ownsRow 0 _ 2 _ (beginT l).length (spansCells (wantsT (beginT l)))
    rw [begin_len, wants_begin]
    exact own_below5 HR2.out.ws hb3
  rw [hw3, hM] at hmk
  obtain ⟨r0, r1, r2, r3⟩ := two_heads HX.out.box
  obtain ⟨s0, s1, s2, s3⟩ := two_heads HX3.out.box
  obtain ⟨w4, hw4⟩ : ∃ w4, w3.setCell ⟨N, 1, none⟩ (.slice (some ⟨M, 0, none⟩) n n) = w4 := ⟨_, rfl⟩
  have HX4 : Hid (Box W w4 N (.slice A n c) (.slice (some ⟨M, 0, none⟩) n n)) := by rw [← hw4]; exact HX3.out.set1 _
  have HO4 : Hid (RefOwn w4 (.slice A n c) (.slice (some ⟨M, 0, none⟩) n n) (beginT l)) := by
    rw [← hw4]
    exact RefOwn.set ⟨HW3.out, HG3.out⟩ HX3.out.box (by decide) (by decide) _
  obtain ⟨t0, t1, t2, t3⟩ := two_heads HX4.out.box
  obtain ⟨o0, o1, o2, o3⟩ := two_heads HX4.out.res
  have HDN := Lib.hid (HX4.out.done HO4.out)
  have hn0 : (0 : Int) ≤ (n : Int) := by omega
  clear h hn hM hw3 hb3
  go_enter Try.func15, Try.ntmps15
  go_wp2_with fail
  refine bodyPost_ret (v := .agg #[.slice A n c, .slice (some ⟨M, 0, none⟩) n n]) (results_cell_row rfl _ _ (N + 1) _ _ _ _ rfl HDN.out.1 Try.underlying32 rfl (Try.sizeRef _ _)) rfl ?_
  exact ⟨_, _, rfl, HDN.out.2⟩
end Go.Proofs.Ytngfcgegondmgaa
