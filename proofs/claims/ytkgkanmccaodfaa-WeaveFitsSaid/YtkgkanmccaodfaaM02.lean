/-
  Has of the document, hasCore, isWhole, wantOf, compareUnits of the program.
  Conditions: the numbers are of their kinds.
-/
import Derived.Test.YtkgkanmccaodfaaM01
import Derived.Maps.AppendAt
import Derived.WalkSpells
import Derived.Lib.SliceRun
import Derived.BigRegion
import Derived.Deep.Cut
import Derived.Deep.CutRange
import Derived.Deep.CutBlock
import Derived.WalkKit
import Derived.WalkLawsBesides
import Derived.Below
import Derived.Lib.Hide
import Derived.Handy
import Derived.ProofKit
import Derived.Deep.LoopGhost
import Derived.Deep.QuietTactic
import Derived.BigQuiet
import Derived.IntWalk
import Derived.LoopTactic
import Derived.Laws.MakeOwn
import Derived.Laws.Rows
import Derived.OpenShut
import Derived.Laws.BitsAllLaws
import Derived.Shelf.RegionOpenPlain
import Derived.Shelf.SlSortCmp.QuietGrown

/-
  What a call answers that leaves all as it was.
  Conditions: none.
-/
set_option linter.unusedVariables false
namespace Go.Proofs.Ytkgkanmccaodfaa
open Go.RowKit

theorem ret_int {k : IntKind} {a b : Int} (h : a = b) : Ending.returned (.int k a) = .returned (.int k b) := by rw [h]
theorem ret_bool {a b : Bool} (h : a = b) : Ending.returned (.bool a) = .returned (.bool b) := by rw [h]

/-- What a call answers that leaves all as it was. -/
def Ret (v : Value) (w : World) (e : Ending) (w' : World) : Prop := e = .returned v ∧ w = w'
end Go.Proofs.Ytkgkanmccaodfaa

/-
  Plans in memory: slices that read as pieces, as places; a plan's box.
  Conditions: none.
-/
set_option linter.unusedVariables false
namespace Go.Proofs.Ytkgkanmccaodfaa
open Go.RowKit

theorem heap_lt {W : World} {b : Nat} {o : Obj} (h : W.heap[b]? = some o) : b < W.heap.size := (Array.getElem?_eq_some_iff.1 h).1
theorem cell_same {W W' : World} {b : Nat} (h : W'.heap[b]? = W.heap[b]?) (o : Nat) : W'.cell? ⟨b, o, none⟩ = W.cell? ⟨b, o, none⟩ := World.cell?_of_block (w := W) h
theorem wrap64_small {i : Int} (h0 : -9223372036854775808 ≤ i) (h1 : i ≤ 9223372036854775807) : wrap64 i = i := IntWalk.wrap64_in i ⟨h0, h1⟩
theorem ret_natU {k : IntKind} {a b : Nat} (h : a = b) : Ending.returned (.int k a) = .returned (.int k b) := by rw [h]

/-- But for the blocks of F, what was there is as it was. -/
structure Apart (F : Nat → Prop) (w w' : World) : Prop where
  os : w'.os = w.os
  tape : w'.tape = w.tape
  output : w'.output = w.output
  size : w.heap.size ≤ w'.heap.size
  block : ∀ k, k < w.heap.size → ¬ F k → w'.heap[k]? = w.heap[k]?
theorem Apart.refl (F : Nat → Prop) (w : World) : Apart F w w := ⟨rfl, rfl, rfl, Nat.le_refl _, fun _ _ _ => rfl⟩
theorem Apart.trans {F F' : Nat → Prop} {a b c : World} (h : Apart F a b) (k : Apart F' b c) (hF : ∀ x, x < a.heap.size → F' x → F x) : Apart F a c :=
  ⟨k.os.trans h.os, k.tape.trans h.tape, k.output.trans h.output, Nat.le_trans h.size k.size, fun x hx hn => (k.block x (Nat.lt_of_lt_of_le hx h.size) (fun hf => hn (hF x hx hf))).trans (h.block x hx hn)⟩
theorem Apart.of_below {F : Nat → Prop} {w w' : World} (h : Below w.heap.size w w') : Apart F w w' := ⟨h.os, h.tape, h.output, h.size, fun k hk _ => h.block k hk⟩
theorem Apart.below {F : Nat → Prop} {B : Nat} {w w' : World} (h : Apart F w w') (hB : B ≤ w.heap.size) (hF : ∀ k, k < B → ¬ F k) : Below B w w' :=
  ⟨h.os, h.tape, h.output, h.size, fun k hk => h.block k (by omega) (hF k hk)⟩

theorem Apart.drewN {F : Nat → Prop} {a w : World} (h : Apart F a w) (n : Nat) : Apart F a (w.drewN n) := ⟨h.os, h.tape, h.output, h.size, h.block⟩
theorem Apart.set {F : Nat → Prop} {a w : World} (h : Apart F a w) {p : Addr} (hp : F p.block ∨ a.heap.size ≤ p.block) (u : Value) : Apart F a (w.setCell p u) :=
  h.trans (F' := fun k => k = p.block) ⟨rfl, rfl, rfl, by simp [World.setCell], fun k hk hn => Below.heap_setCell _ _ _ _ hn⟩ (fun x hx e => by
    subst e
    rcases hp with hp | hp
    · exact hp
    · omega)
theorem heap_setCell_mem (w : World) (b o : Nat) (cs : Array Value) (T : TypeId) (fr : Nat × Nat) (x : Value) (h : w.heap[b]? = some (.cells cs T fr)) : (w.setCell ⟨b, o, none⟩ x).heap[b]? = some (.cells (cs.setIfInBounds o x) T fr) := by
  have hlt := (Array.getElem?_eq_some_iff.1 h).1
  have h' : w.heap[b] = .cells cs T fr := by simpa [Array.getElem?_eq_getElem hlt] using h
  show (w.heap.modify b _)[b]? = _
  rw [Array.getElem?_eq_getElem (by simpa using hlt), Array.getElem_modify_self, h']
  rfl
theorem own_keep {w w' : World} {base e size n : Nat} {v : Value} {xs : List Value} (h : w.ownsRow base e size v n xs) (hk : ∀ k, v.ownBlock = some k → w'.heap[k]? = w.heap[k]?) : w'.ownsRow base e size v n xs := by
  obtain ⟨h1, h2⟩ := h
  refine ⟨h1, ?_⟩
  rcases h2 with h2 | ⟨g, cap, cur, rfl, hg, hh, r⟩
  · exact .inl h2
  · exact .inr ⟨g, cap, cur, rfl, hg, (hk g rfl).trans hh, r⟩
theorem own_lt {w : World} {base e size n : Nat} {v : Value} {xs : List Value} (h : w.ownsRow base e size v n xs) {k : Nat} (hk : v.ownBlock = some k) : k < w.heap.size := by
  rcases h.2 with ⟨rfl, h0⟩ | ⟨g, cap, cur, rfl, hg, hh, _⟩
  · cases hk
  · cases hk
    exact heap_lt hh

theorem Try.infoPc : (Try.prog.info? 50).map (fun i => (i.zero, i.size, i.bytes)) = some (some (.agg #[.int .i64 0, .int .u64 0]), 2, 16) := by kernel_rfl
theorem Try.infoPl : (Try.prog.info? 38).map (fun i => (i.zero, i.size, i.bytes)) = some (some (.agg #[.int .i64 0, .int .i64 0, .int .i64 0, .slice none 0 0]), 4, 48) := by kernel_rfl
theorem Try.infoPn : (Try.prog.info? 25).map (fun i => (i.zero, i.size, i.bytes)) = some (some (.agg #[.int .i64 0, .int .u32 0, .slice none 0 0]), 3, 40) := by kernel_rfl

def pcCells (y : Pc) : List Value := [.int .i64 y.c, .int .u64 y.t]
def pcA (y : Pc) : Value := .agg #[.int .i64 y.c, .int .u64 y.t]
/-- A place by value: its pieces' slice beside it. -/
def plA (v : Value) (x : Pl) : Value := .agg #[.int .i64 x.u, .int .i64 x.s, .int .i64 x.c, v]
def planA (f : Int) (m : Nat) (v : Value) : Value := .agg #[.int .i64 f, .int .u32 m, v]
/-- A piece lies at an address. -/
def PcAt (W : World) (b o : Nat) (y : Pc) : Prop := W.cell? ⟨b, o, none⟩ = some (.int .i64 y.c) ∧ W.cell? ⟨b, o + 1, none⟩ = some (.int .u64 y.t)
/-- The value reads as pieces that lie in a block of F. -/
def PcsIn (F : Nat → Prop) (W : World) (v : Value) (ps : List Pc) : Prop :=
  ∃ A c, v = .slice A ps.length c ∧ ps.length ≤ c ∧ c ≤ 9223372036854775807 ∧
    (0 < ps.length → ∃ b off, A = some ⟨b, off, none⟩ ∧ b < W.heap.size ∧ F b ∧ ∀ (j : Nat) (y : Pc), ps[j]? = some y → PcAt W b (off + j * 2) y)
/-- A place lies at an address, its pieces' slice beside it. -/
def PlAt (W : World) (b o : Nat) (p : Value × Pl) : Prop :=
  W.cell? ⟨b, o, none⟩ = some (.int .i64 p.2.u) ∧ W.cell? ⟨b, o + 1, none⟩ = some (.int .i64 p.2.s) ∧ W.cell? ⟨b, o + 2, none⟩ = some (.int .i64 p.2.c) ∧ W.cell? ⟨b, o + 3, none⟩ = some p.1
abbrev plsOf (ls : List (Value × Pl)) : List Pl := ls.map Prod.snd
/-- The value reads as places, each with where its pieces lie; all in blocks of F. -/
def RawIn (F : Nat → Prop) (W : World) (v : Value) (ls : List (Value × Pl)) : Prop :=
  ∃ A c, v = .slice A ls.length c ∧ ls.length ≤ c ∧ c ≤ 9223372036854775807 ∧
    (0 < ls.length → ∃ b off, A = some ⟨b, off, none⟩ ∧ b < W.heap.size ∧ F b ∧ ∀ (j : Nat) (p : Value × Pl), ls[j]? = some p → PlAt W b (off + j * 4) p) ∧ ∀ p ∈ ls, PcsIn F W p.1 p.2.ps
def PlsIn (F : Nat → Prop) (W : World) (v : Value) (l : List Pl) : Prop := ∃ ls, plsOf ls = l ∧ RawIn F W v ls
abbrev Any : Nat → Prop := fun _ => True
abbrev PcsAt := PcsIn Any
abbrev PlsAt := PlsIn Any

theorem PcAt.keep {W W' : World} {b o : Nat} {y : Pc} (h : PcAt W b o y) (hk : W'.heap[b]? = W.heap[b]?) : PcAt W' b o y :=
  ⟨(cell_same hk _).trans h.1, (cell_same hk _).trans h.2⟩
theorem PlAt.keep {W W' : World} {b o : Nat} {p : Value × Pl} (h : PlAt W b o p) (hk : W'.heap[b]? = W.heap[b]?) : PlAt W' b o p :=
  ⟨(cell_same hk _).trans h.1, (cell_same hk _).trans h.2.1, (cell_same hk _).trans h.2.2.1, (cell_same hk _).trans h.2.2.2⟩
theorem PcsIn.mono {F G : Nat → Prop} {W : World} {v : Value} {ps : List Pc} (h : PcsIn F W v ps) (hg : ∀ b, b < W.heap.size → F b → G b) : PcsIn G W v ps := by
  obtain ⟨A, c, h1, h2, h3, h4⟩ := h
  refine ⟨A, c, h1, h2, h3, fun hn => ?_⟩
  obtain ⟨b, off, e, hlt, hf, hc⟩ := h4 hn
  exact ⟨b, off, e, hlt, hg b hlt hf, hc⟩
theorem PcsIn.any {F : Nat → Prop} {W : World} {v : Value} {ps : List Pc} (h : PcsIn F W v ps) : PcsAt W v ps := h.mono fun _ _ _ => trivial
theorem PcsIn.keepF {F : Nat → Prop} {W W' : World} {v : Value} {ps : List Pc} (h : PcsIn F W v ps) (hs : W.heap.size ≤ W'.heap.size) (hk : ∀ b, b < W.heap.size → F b → W'.heap[b]? = W.heap[b]?) : PcsIn F W' v ps := by
  obtain ⟨A, c, h1, h2, h3, h4⟩ := h
  refine ⟨A, c, h1, h2, h3, fun hn => ?_⟩
  obtain ⟨b, off, e, hlt, hf, hc⟩ := h4 hn
  exact ⟨b, off, e, Nat.lt_of_lt_of_le hlt hs, hf, fun j y hy => (hc j y hy).keep (hk b hlt hf)⟩
theorem PcsIn.keep {F : Nat → Prop} {W W' : World} {v : Value} {ps : List Pc} (h : PcsIn F W v ps) (hb : Below W.heap.size W W') : PcsIn F W' v ps := h.keepF hb.size fun b hlt _ => hb.block b hlt
theorem PcsIn.nil (F : Nat → Prop) (W : World) : PcsIn F W (.slice none 0 0) [] := ⟨none, 0, rfl, Nat.le_refl _, by decide, fun h => absurd h (by decide)⟩
theorem PcsIn.form {F : Nat → Prop} {W : World} {v : Value} {ps : List Pc} (h : PcsIn F W v ps) : ∃ A c, v = .slice A ps.length c := by
  obtain ⟨A, c, h1, _⟩ := h
  exact ⟨A, c, h1⟩
theorem PcsIn.bound {F : Nat → Prop} {W : World} {v : Value} {ps : List Pc} (h : PcsIn F W v ps) : ps.length ≤ 9223372036854775807 := by
  obtain ⟨A, c, h1, h2, h3, _⟩ := h
  omega
/-- Piece j: where it lies. -/
theorem PcsIn.at_ {F : Nat → Prop} {W : World} {A : Option Addr} {n c : Nat} {ps : List Pc} (h : PcsIn F W (.slice A n c) ps) {j : Nat} {y : Pc} (hj : ps[j]? = some y) :
    ∃ b off, A = some ⟨b, off, none⟩ ∧ b < W.heap.size ∧ F b ∧ PcAt W b (off + j * 2) y := by
  obtain ⟨A', c', h1, h2, h3, h4⟩ := h
  injection h1 with e1 e2 e3
  subst e1
  obtain ⟨b, off, e, hlt, hf, hc⟩ := h4 (by have := (List.getElem?_eq_some_iff.1 hj).1; omega)
  exact ⟨b, off, e, hlt, hf, hc j y hj⟩

theorem RawIn.mono {F G : Nat → Prop} {W : World} {v : Value} {ls : List (Value × Pl)} (h : RawIn F W v ls) (hg : ∀ b, b < W.heap.size → F b → G b) : RawIn G W v ls := by
  obtain ⟨A, c, h1, h2, h3, h4, h5⟩ := h
  refine ⟨A, c, h1, h2, h3, fun hn => ?_, fun p hp => (h5 p hp).mono hg⟩
  obtain ⟨b, off, e, hlt, hf, hc⟩ := h4 hn
  exact ⟨b, off, e, hlt, hg b hlt hf, hc⟩
theorem RawIn.keepF {F : Nat → Prop} {W W' : World} {v : Value} {ls : List (Value × Pl)} (h : RawIn F W v ls) (hs : W.heap.size ≤ W'.heap.size) (hk : ∀ b, b < W.heap.size → F b → W'.heap[b]? = W.heap[b]?) : RawIn F W' v ls := by
  obtain ⟨A, c, h1, h2, h3, h4, h5⟩ := h
  refine ⟨A, c, h1, h2, h3, fun hn => ?_, fun p hp => (h5 p hp).keepF hs hk⟩
  obtain ⟨b, off, e, hlt, hf, hc⟩ := h4 hn
  exact ⟨b, off, e, Nat.lt_of_lt_of_le hlt hs, hf, fun j p hp => (hc j p hp).keep (hk b hlt hf)⟩
theorem RawIn.keep {F : Nat → Prop} {W W' : World} {v : Value} {ls : List (Value × Pl)} (h : RawIn F W v ls) (hb : Below W.heap.size W W') : RawIn F W' v ls := h.keepF hb.size fun b hlt _ => hb.block b hlt
theorem PlsIn.mono {F G : Nat → Prop} {W : World} {v : Value} {l : List Pl} (h : PlsIn F W v l) (hg : ∀ b, b < W.heap.size → F b → G b) : PlsIn G W v l := by
  obtain ⟨ls, e, h⟩ := h
  exact ⟨ls, e, h.mono hg⟩
theorem PlsIn.any {F : Nat → Prop} {W : World} {v : Value} {l : List Pl} (h : PlsIn F W v l) : PlsAt W v l := h.mono fun _ _ _ => trivial
theorem PlsIn.keepF {F : Nat → Prop} {W W' : World} {v : Value} {l : List Pl} (h : PlsIn F W v l) (hs : W.heap.size ≤ W'.heap.size) (hk : ∀ b, b < W.heap.size → F b → W'.heap[b]? = W.heap[b]?) : PlsIn F W' v l := by
  obtain ⟨ls, e, h⟩ := h
  exact ⟨ls, e, h.keepF hs hk⟩
theorem PlsIn.keep {F : Nat → Prop} {W W' : World} {v : Value} {l : List Pl} (h : PlsIn F W v l) (hb : Below W.heap.size W W') : PlsIn F W' v l := h.keepF hb.size fun b hlt _ => hb.block b hlt
theorem PlsIn.nil (F : Nat → Prop) (W : World) : PlsIn F W (.slice none 0 0) [] := ⟨[], rfl, none, 0, rfl, Nat.le_refl _, by decide, fun h => absurd h (by decide), fun p hp => by cases hp⟩
theorem plsOf_length (ls : List (Value × Pl)) : (plsOf ls).length = ls.length := by simp
theorem PlsIn.form {F : Nat → Prop} {W : World} {v : Value} {l : List Pl} (h : PlsIn F W v l) : ∃ A c, v = .slice A l.length c ∧ l.length ≤ c ∧ c ≤ 9223372036854775807 := by
  obtain ⟨ls, rfl, A, c, h1, h2, h3, _⟩ := h
  exact ⟨A, c, by rw [plsOf_length]; exact h1, by rw [plsOf_length]; exact h2, h3⟩
/-- Place j: where it lies, and its pieces. -/
theorem PlsIn.at_ {F : Nat → Prop} {W : World} {A : Option Addr} {n c : Nat} {l : List Pl} (h : PlsIn F W (.slice A n c) l) {j : Nat} {x : Pl} (hj : l[j]? = some x) :
    ∃ b off B d, A = some ⟨b, off, none⟩ ∧ b < W.heap.size ∧ F b ∧ PlAt W b (off + j * 4) (.slice B x.ps.length d, x) ∧ PcsIn F W (.slice B x.ps.length d) x.ps := by
  obtain ⟨ls, rfl, A', c', h1, h2, h3, h4, h5⟩ := h
  injection h1 with e1 e2 e3
  subst e1
  obtain ⟨p, hp, rfl⟩ : ∃ p, ls[j]? = some p ∧ p.2 = x := by
    rw [List.getElem?_map] at hj
    obtain ⟨p, hp, e⟩ := Option.map_eq_some_iff.1 hj
    exact ⟨p, hp, e⟩
  obtain ⟨b, off, e, hlt, hf, hc⟩ := h4 (by have := (List.getElem?_eq_some_iff.1 hp).1; omega)
  have hps := h5 p (List.mem_of_getElem? hp)
  obtain ⟨B, d, hv⟩ := hps.form
  have hat := hc j p hp
  obtain ⟨u, x⟩ := p
  simp only at hv hps
  subst hv
  exact ⟨b, off, B, d, e, hlt, hf, hat, hps⟩
theorem exP_at {α : Type} {xs : List α} {k : Nat} (h : k < xs.length) : ∃ x, xs[k]? = some x := ⟨xs[k], List.getElem?_eq_getElem h⟩

/-! ### Boxes -/
theorem box_any (W : World) (cs : Array Value) (t : Nat) : ∃ w1 P, W.alloc (.cells cs t) = w1 ∧ W.heap.size = P ∧ P < w1.heap.size ∧ Below W.heap.size W w1 ∧ w1.heap[P]? = some (.cells cs t (0, 0)) :=
  ⟨_, _, rfl, rfl, by simp, (Below.refl _ W).alloc (Nat.le_refl _) _, heap_alloc_new W _⟩
theorem keep_block {W W' : World} {B : Nat} {o : Obj} (h : W.heap[B]? = some o) (hb : Below W.heap.size W W') : W'.heap[B]? = some o := (hb.block B (heap_lt h)).trans h
theorem two_heads {w : World} {P t : Nat} {a b : Value} (h : w.heap[P]? = some (.cells #[a, b] t (0, 0))) : w.cell? ⟨P, 0, none⟩ = some a ∧ w.cell? ⟨P, 1, none⟩ = some b := by
  refine ⟨?_, ?_⟩ <;> simp [World.cell?, h]
theorem three_heads {w : World} {P t : Nat} {a b c : Value} (h : w.heap[P]? = some (.cells #[a, b, c] t (0, 0))) : w.cell? ⟨P, 0, none⟩ = some a ∧ w.cell? ⟨P, 1, none⟩ = some b ∧ w.cell? ⟨P, 2, none⟩ = some c := by
  refine ⟨?_, ?_, ?_⟩ <;> simp [World.cell?, h]
theorem four_heads {w : World} {P t : Nat} {a b c d : Value} (h : w.heap[P]? = some (.cells #[a, b, c, d] t (0, 0))) : w.cell? ⟨P, 0, none⟩ = some a ∧ w.cell? ⟨P, 1, none⟩ = some b ∧ w.cell? ⟨P, 2, none⟩ = some c ∧ w.cell? ⟨P, 3, none⟩ = some d := by
  refine ⟨?_, ?_, ?_, ?_⟩ <;> simp [World.cell?, h]
theorem results_row_tmp {P : Program} {fn : Func} {p u : Tmp} {ty : TypeId} (h : fn.results = #[.cell p ty, .tmp u]) (tmps : Array Value) (w : World) (g : Nat) (t : TypeId) (cs : Array Value) (fr : Nat × Nat) (d : TypeDesc)
    (hp : tmps.getD p undef = .pointer (some ⟨g, 0, none⟩)) (hg : w.heap[g]? = some (.cells cs t fr))
    (hu : P.underlying ty = some d) (hd : (match d with | .struct _ | .array _ _ => true | _ => false) = true) (hi : (P.info? ty).map (·.size) = some cs.size) (x : Value) (hx : tmps.getD u undef = x) :
    (results fn tmps).run P w = .ok (.tuple #[.agg cs, x]) w := by
  rw [results_cell_tmp h, hp, hx]
  simp [asAddr, run_loadVar_row w g t ty cs fr d hg hu hd hi, Result.andThen]
theorem Try.sizeWt (a b : Value) : (Try.prog.info? 35).map (·.size) = some (#[a, b] : Array Value).size := by show _ = some 2; kernel_rfl
theorem Try.sizePl (a b c d : Value) : (Try.prog.info? 38).map (·.size) = some (#[a, b, c, d] : Array Value).size := by show _ = some 4; kernel_rfl
theorem Try.sizePn (a b c : Value) : (Try.prog.info? 25).map (·.size) = some (#[a, b, c] : Array Value).size := by show _ = some 3; kernel_rfl
theorem alloc_block (W : World) (o : Obj) {B : Nat} (h : W.heap.size = B) : (W.alloc o).heap[B]? = some o := by subst h; exact heap_alloc_new W o
/-- What a call answers that makes memory, as a bool that tells P. -/
def RetIff (P : Prop) (w : World) (e : Ending) (w' : World) : Prop := ∃ b : Bool, e = .returned (.bool b) ∧ (b = true ↔ P) ∧ Below w.heap.size w w'
theorem RetIff.yes {P : Prop} {w w' : World} (h : P) (hb : Below w.heap.size w w') : RetIff P w (.returned (.bool true)) w' := ⟨true, rfl, ⟨fun _ => h, fun _ => rfl⟩, hb⟩
theorem RetIff.no {P : Prop} {w w' : World} (h : ¬ P) (hb : Below w.heap.size w w') : RetIff P w (.returned (.bool false)) w' := ⟨false, rfl, ⟨(fun e => by cases e), fun hp => absurd hp h⟩, hb⟩
/-- Of a bool that is told: it is one or the other. -/
theorem calls_iff {P : Program} {f : FuncId} {args : Array Value} {w : World} {Q : Prop} (h : Calls P f args w (RetIff Q w)) : (Q → Calls P f args w (RetB (.bool true) w)) ∧ (¬ Q → Calls P f args w (RetB (.bool false) w)) :=
  ⟨fun hq => h.mono fun e w' ⟨b, he, hb, hw⟩ => ⟨by rw [he, hb.2 hq], hw⟩, fun hq => h.mono fun e w' ⟨b, he, hb, hw⟩ => ⟨by
    rw [he]
    cases b with
    | false => rfl
    | true => exact absurd (hb.1 rfl) hq, hw⟩⟩
end Go.Proofs.Ytkgkanmccaodfaa

/-
  A slice that reads as a list of ints; what calls answer.
  Conditions: none.
-/
set_option linter.unusedVariables false
namespace Go.Proofs.Ytkgkanmccaodfaa
open Go.RowKit

/-- The slice value 'v' reads as the numbers 'xs'; it lies in memory that is there. -/
def IntsAt (W : World) (v : Value) (xs : List Int) : Prop :=
  ∃ A c, v = .slice A xs.length c ∧ xs.length ≤ 9223372036854775807 ∧
    (0 < xs.length → ∃ b off, A = some ⟨b, off, none⟩ ∧ b < W.heap.size ∧ ∀ (j : Nat) (x : Int), xs[j]? = some x → W.cell? ⟨b, off + j, none⟩ = some (.int .i64 x))

theorem IntsAt.nil (W : World) : IntsAt W (.slice none 0 0) [] := ⟨none, 0, rfl, by decide, fun h => absurd h (by decide)⟩

theorem IntsAt.keep {W W' : World} {v : Value} {xs : List Int} (h : IntsAt W v xs) (hb : Below W.heap.size W W') : IntsAt W' v xs := by
  obtain ⟨A, c, h1, h2, h3⟩ := h
  refine ⟨A, c, h1, h2, fun hn => ?_⟩
  obtain ⟨b, off, e, hlt, hc⟩ := h3 hn
  exact ⟨b, off, e, Nat.lt_of_lt_of_le hlt hb.size, fun j x hx => (hb.cell (p := ⟨b, off + j, none⟩) hlt).trans (hc j x hx)⟩
end Go.Proofs.Ytkgkanmccaodfaa

/-
  A row of ints that the call made: read, stored into, kept; a call in a region that draws.
  Conditions: none.
-/
set_option linter.unusedVariables false
namespace Go.Proofs.Ytkgkanmccaodfaa
open Go.RowKit

/-- All 0. -/
def zeros (n : Nat) : List Int := List.replicate n 0

def rowOf (xs : List Int) : Array Value := (xs.map (Value.int .i64)).toArray
/-- Block g is just the numbers xs, none frozen. -/
def RowAt (W : World) (g : Nat) (xs : List Int) : Prop := W.heap[g]? = some (.cells (rowOf xs) 3 (0, 0))

theorem rowOf_get (xs : List Int) (j : Nat) : (rowOf xs)[j]? = (xs[j]?).map (Value.int .i64) := by simp [rowOf]
theorem rowOf_set (xs : List Int) (j : Nat) (x : Int) : (rowOf xs).setIfInBounds j (.int .i64 x) = rowOf (xs.set j x) := by
  simp [rowOf, List.map_set]

theorem RowAt.lt {W : World} {g : Nat} {xs : List Int} (h : RowAt W g xs) : g < W.heap.size := by
  rcases Nat.lt_or_ge g W.heap.size with hlt | hge
  · exact hlt
  · unfold RowAt at h; rw [Array.getElem?_eq_none hge] at h; cases h
theorem RowAt.cell {W : World} {g : Nat} {xs : List Int} (h : RowAt W g xs) {j : Nat} {x : Int} (hx : xs[j]? = some x) : W.cell? ⟨g, j, none⟩ = some (.int .i64 x) := by
  rw [cell_of_row W g j _ _ (0, 0) h, rowOf_get, hx]; rfl
theorem RowAt.frozen {W : World} {g : Nat} {xs : List Int} (h : RowAt W g xs) (j : Nat) : W.frozen? ⟨g, j, none⟩ = false := by
  unfold RowAt at h
  simp [World.frozen?, h]
theorem RowAt.drewN {W : World} {g : Nat} {xs : List Int} (h : RowAt W g xs) (n : Nat) : RowAt (W.drewN n) g xs := h
theorem RowAt.alloc {W : World} {g : Nat} {xs : List Int} (h : RowAt W g xs) (o : Obj) : RowAt (W.alloc o) g xs := (Below.heap_alloc W o g h.lt).trans h
theorem RowAt.set_ {W : World} {g : Nat} {xs : List Int} (h : RowAt W g xs) (j : Nat) (x : Int) : RowAt (W.setCell ⟨g, j, none⟩ (.int .i64 x)) g (xs.set j x) := by
  unfold RowAt at h ⊢
  rw [← rowOf_set]
  simp [World.setCell, Array.getElem?_modify, h]
theorem RowAt.far {W : World} {g : Nat} {xs : List Int} (h : RowAt W g xs) {p : Addr} (hp : g ≠ p.block) (u : Value) : RowAt (W.setCell p u) g xs := (Below.heap_setCell W p u g hp).trans h
theorem RowAt.below {B : Nat} {W W' : World} {g : Nat} {xs : List Int} (h : RowAt W g xs) (hb : Below B W W') (hg : g < B) : RowAt W' g xs := (hb.block g hg).trans h
theorem RowAt.ints {W : World} {g : Nat} {xs : List Int} (h : RowAt W g xs) (hl : xs.length ≤ 9223372036854775807) (c : Nat) : IntsAt W (.slice (some ⟨g, 0, none⟩) xs.length c) xs :=
  ⟨_, _, rfl, hl, fun _ => ⟨g, 0, rfl, h.lt, fun j x hx => by rw [Nat.zero_add]; exact h.cell hx⟩⟩

theorem madeCells_one (z : Value) (n : Nat) : madeCells #[z] n = (List.replicate n z).toArray := by
  apply Array.toList_inj.1
  rw [List.toList_toArray]
  apply List.ext_getElem?
  intro j
  by_cases hj : j < n
  · simp [madeCells, hj, Nat.mod_one]
  · simp [madeCells, hj]

/-- make([]int, n). -/
theorem mk_ints (W : World) (n : Nat) (h : n ≤ 1000) : (Instr.makeSlice 29 (.int .i64 (n : Int)) (.int .i64 (n : Int))).run Try.prog W = .ok (.slice (some ⟨W.heap.size, 0, none⟩) n n) (W.alloc (.cells (rowOf (zeros n)) 3)) := by
  obtain ⟨i, hi, e⟩ := Option.map_eq_some_iff.1 Try.infoInt
  simp only [Prod.mk.injEq] at e
  obtain ⟨e1, e2, e3⟩ := e
  have hr := run_make (P := Try.prog) W 29 3 i (.int .i64 0) Try.underlying29 hi e1 .i64 .i64 n n (by omega) (Int.le_refl _) (by rw [e3]; omega) (by omega)
  rw [hr, e2]
  simp only [Int.toNat_natCast, Nat.mul_one]
  rw [show (Value.int .i64 0).cells = #[.int .i64 0] from rfl, madeCells_one]
  simp [rowOf, zeros]

theorem quiet_ret {P : Program} {f : FuncId} {args : Array Value} {w : World} {n : Nat} {v : Value} (h : Calls P f args (w.drewN n) (Ret v (w.drewN n))) :
    Calls P f args (w.drewN n) fun e w'' => e = .returned v ∧ ∃ m, w'' = w.drewN m := h.mono fun _ _ ⟨he, hm⟩ => ⟨he, n, hm.symm⟩

theorem RowAt.new (W : World) (xs : List Int) : RowAt (W.alloc (.cells (rowOf xs) 3)) W.heap.size xs := heap_alloc_new W _
theorem rowAt_pushed {W W' : World} {xs : List Int} (h : W' = W.alloc (.cells (rowOf xs) 3)) : RowAt W' W.heap.size xs := by subst h; exact RowAt.new W xs
end Go.Proofs.Ytkgkanmccaodfaa

/-
  The plain answers about a frame and a tick: length, Frame, All, inRange, Has, With.
  Conditions: the numbers are of their kinds.
-/
set_option linter.unusedVariables false
namespace Go.Proofs.Ytkgkanmccaodfaa
open Go.RowKit

theorem ret_nat {k : IntKind} {a b : Nat} (h : a = b) : Ending.returned (.int k a) = .returned (.int k b) := by rw [h]

/-- How many ticks a frame has. -/
def frN (f : Int) : Nat := (min (max f 0) 64).toNat
theorem frN_le (f : Int) : frN f ≤ 64 := by unfold frN; omega

set_option maxHeartbeats 1000000 in
theorem length_any (f : Int) (w : World) : Calls Try.prog 76 #[.int .i64 f] w (Ret (.int .i64 (frN f)) w) := by
  go_enter Try.func76, Try.ntmps76
  go_wp2
  all_goals
    go_ret
    exact ⟨ret_int (by unfold frN; omega), rfl⟩

theorem pow_cast (k : Nat) : ((2 : Int) ^ k) = ((2 ^ k : Nat) : Int) := by simp
theorem all_word (k : Nat) (hk : k ≤ 64) : IntKind.u64.wrap (IntKind.u64.wrap (2 ^ k) - 1) = (allN k : Int) := by
  rw [pow_cast]
  unfold allN
  have h2 : 0 < 2 ^ k := Nat.two_pow_pos k
  rcases Nat.lt_or_ge k 64 with h | h
  · have h1 := pow_lt64 h
    generalize 2 ^ k = K at *
    rw [IntKind.wrap_u64, IntKind.wrap_u64]
    omega
  · have : k = 64 := by omega
    subst this
    rfl

set_option maxHeartbeats 1000000 in
theorem all_any (f : Int) (w : World) : Calls Try.prog 50 #[.int .i64 f] w (Ret (.int .u64 (allN (frN f))) w) := by
  have HL := Lib.hid (fun W => length_any f W)
  have hk := frN_le f
  generalize frN f = k at *
  go_enter Try.func50, Try.ntmps50
  go_wp2_with (go_at_call 76; refine (HL.out _).mono ?_; rintro e w' ⟨rfl, rfl⟩)
  go_ret
  exact ⟨ret_int (all_word k hk), rfl⟩

set_option maxHeartbeats 1000000 in
theorem inRange_any (t : Int) (w : World) : Calls Try.prog 85 #[.int .i64 t] w (Ret (.bool (decide (0 ≤ t ∧ t < 64))) w) := by
  by_cases h0 : 0 ≤ t
  · by_cases h1 : t < 64
    · have e : decide (0 ≤ t ∧ t < 64) = true := decide_eq_true ⟨h0, h1⟩
      rw [e]
      go_enter Try.func85, Try.ntmps85
      go_wp2
      go_ret
      exact ⟨rfl, rfl⟩
    · have e : decide (0 ≤ t ∧ t < 64) = false := decide_eq_false (fun h => h1 h.2)
      have h1' : decide (t < 64) = false := decide_eq_false h1
      rw [e]
      clear e
      go_enter Try.func85, Try.ntmps85
      go_wp2
      go_ret
      exact ⟨rfl, rfl⟩
  · have e : decide (0 ≤ t ∧ t < 64) = false := decide_eq_false (fun h => h0 h.1)
    have h1' : decide (0 ≤ t) = false := decide_eq_false h0
    rw [e]
    clear e
    go_enter Try.func85, Try.ntmps85
    go_wp2
    go_ret
    exact ⟨rfl, rfl⟩

def hasB (m : Nat) (t : Int) : Bool := decide (0 ≤ t ∧ t < 64) && m.testBit t.toNat
theorem hasB_nat {m t : Nat} (h : t < 64) : hasB m (t : Int) = m.testBit t := by
  unfold hasB
  have : decide ((0 : Int) ≤ (t : Int) ∧ (t : Int) < 64) = true := decide_eq_true ⟨by omega, by omega⟩
  rw [this, Int.toNat_natCast]
  rfl
theorem hasB_out {m : Nat} {t : Int} (h : ¬ (0 ≤ t ∧ t < 64)) : hasB m t = false := by
  unfold hasB
  rw [decide_eq_false h]
  rfl

theorem shr_bit (m t : Nat) (hm : m < 18446744073709551616) : bits BinOp.and IntKind.u64 ((m : Int) / 2 ^ t) 1 = ((m.testBit t).toNat : Int) := by
  have e1 := bits_and_u64_nat (m / 2 ^ t) 1 (Nat.lt_of_le_of_lt (Nat.div_le_self _ _) hm) (by decide)
  rw [show ((m : Int) / 2 ^ t) = ((m / 2 ^ t : Nat) : Int) by simp]
  rw [show ((1 : Nat) : Int) = 1 from rfl] at e1
  rw [e1, Nat.and_one_is_mod, Nat.testBit_eq_decide_div_mod_eq]
  rcases Nat.mod_two_eq_zero_or_one (m / 2 ^ t) with h | h <;> simp [h]
theorem shr_mod (m t : Nat) : ((m : Int) / 2 ^ t).tmod 2 = ((m.testBit t).toNat : Int) := by
  rw [Int.tmod_eq_emod_of_nonneg (by rw [show ((m : Int) / 2 ^ t) = ((m / 2 ^ t : Nat) : Int) by simp]; exact Int.natCast_nonneg _)]
  rw [show ((m : Int) / 2 ^ t % 2) = ((m / 2 ^ t % 2 : Nat) : Int) by simp, Nat.testBit_eq_decide_div_mod_eq]
  rcases Nat.mod_two_eq_zero_or_one (m / 2 ^ t) with h | h <;> simp [h]

set_option maxHeartbeats 1000000 in
theorem has_any (m : Nat) (t : Int) (w : World) (hm : m < 18446744073709551616) : Calls Try.prog 77 #[.int .u64 m, .int .i64 t] w (Ret (.bool (hasB m t)) w) := by
  have HR := Lib.hid (inRange_any t w)
  by_cases h : 0 ≤ t ∧ t < 64
  · obtain ⟨T, rfl⟩ := Int.eq_ofNat_of_zero_le h.1
    have hT : T < 64 := by omega
    rw [hasB_nat hT]
    rw [decide_eq_true h] at HR
    have e := shr_bit m T hm
    generalize m.testBit T = b at *
    clear h
    cases b
    all_goals
      simp only [Bool.toNat_true, Bool.toNat_false] at e
      go_enter Try.func77, Try.ntmps77
      go_wp2_with (go_at_call 85; refine HR.out.mono ?_; rintro e w' ⟨rfl, rfl⟩)
      go_ret
      exact ⟨rfl, rfl⟩
  · rw [hasB_out h]
    rw [decide_eq_false h] at HR
    clear h
    go_enter Try.func77, Try.ntmps77
    go_wp2_with (go_at_call 85; refine HR.out.mono ?_; rintro e w' ⟨rfl, rfl⟩)
    go_ret
    exact ⟨rfl, rfl⟩

set_option maxHeartbeats 1000000 in
theorem refHas_any (m : Nat) (t : Int) (w : World) (hm : m < 18446744073709551616) : Calls Try.prog 30 #[.int .u64 m, .int .i64 t] w (Ret (.bool (hasB m t)) w) := by
  by_cases h : 0 ≤ t ∧ t < 64
  · obtain ⟨T, rfl⟩ := Int.eq_ofNat_of_zero_le h.1
    have hT : T < 64 := by omega
    rw [hasB_nat hT]
    have e := shr_mod m T
    generalize m.testBit T = b at *
    clear h
    cases b
    all_goals
      simp only [Bool.toNat_true, Bool.toNat_false] at e
      go_enter Try.func30, Try.ntmps30
      go_wp2
      go_ret
      exact ⟨rfl, rfl⟩
  · rw [hasB_out h]
    by_cases h0 : t < 0
    · clear h
      go_enter Try.func30, Try.ntmps30
      go_wp2
      go_ret
      exact ⟨rfl, rfl⟩
    · have h1 : decide (63 < t) = true := decide_eq_true (by omega)
      have h1' : decide (t > 63) = true := decide_eq_true (by omega)
      have h2 : 63 < t := by omega
      clear h
      go_enter Try.func30, Try.ntmps30
      go_wp2
      go_ret
      exact ⟨rfl, rfl⟩

/-- What With answers. -/
def withI (m : Nat) (t : Int) : Nat := if 0 ≤ t ∧ t < 64 then withN m t.toNat else m
theorem withI_nat {m t : Nat} (h : t < 64) : withI m (t : Int) = withN m t := by
  unfold withI
  rw [if_pos ⟨by omega, by omega⟩, Int.toNat_natCast]
theorem withI_out {m : Nat} {t : Int} (h : ¬ (0 ≤ t ∧ t < 64)) : withI m t = m := by
  unfold withI
  rw [if_neg h]
theorem withI_lt {m : Nat} {t : Int} (hm : m < 18446744073709551616) : withI m t < 18446744073709551616 := by
  by_cases h : 0 ≤ t ∧ t < 64
  · obtain ⟨T, rfl⟩ := Int.eq_ofNat_of_zero_le h.1
    rw [withI_nat (by omega)]
    exact withN_lt hm (by omega)
  · rw [withI_out h]; exact hm

theorem add_word {m t : Nat} (hm : m < 18446744073709551616) (ht : t < 64) (h : m.testBit t = false) : IntKind.u64.wrap ((m : Int) + IntKind.u64.wrap (2 ^ t)) = (withN m t : Int) := by
  have e := add_pow h
  have h1 := withN_lt hm ht
  have h2 := pow_lt64 ht
  rw [← e] at h1 ⊢
  rw [pow_cast]
  generalize 2 ^ t = K at *
  rw [IntKind.wrap_u64, IntKind.wrap_u64]
  omega
theorem or_word {m t : Nat} (hm : m < 18446744073709551616) (ht : t < 64) : bits BinOp.or IntKind.u64 (m : Int) (IntKind.u64.wrap (2 ^ t)) = (withN m t : Int) := by
  have h2 := pow_lt64 ht
  rw [pow_cast]
  have e : IntKind.u64.wrap ((2 ^ t : Nat) : Int) = ((2 ^ t : Nat) : Int) := by
    generalize 2 ^ t = K at *
    rw [IntKind.wrap_u64]
    omega
  rw [e, bits_or_u64_nat _ _ hm h2]
  rfl

set_option maxHeartbeats 1000000 in
theorem with_any (m : Nat) (t : Int) (w : World) (hm : m < 18446744073709551616) : Calls Try.prog 31 #[.int .u64 m, .int .i64 t] w (Ret (.int .u64 (withI m t)) w) := by
  have HH := Lib.hid (refHas_any m t w hm)
  by_cases h : 0 ≤ t ∧ t < 64
  · obtain ⟨T, rfl⟩ := Int.eq_ofNat_of_zero_le h.1
    have hT : T < 64 := by omega
    rw [withI_nat hT]
    rw [hasB_nat hT] at HH
    cases hb : m.testBit T
    · rw [hb] at HH
      have e := add_word hm hT hb
      generalize withN m T = M at *
      have h1 : decide ((T : Int) < 0) = false := decide_eq_false (by omega)
      have h2 : decide ((63 : Int) < (T : Int)) = false := decide_eq_false (by omega)
      clear h hb
      go_enter Try.func31, Try.ntmps31
      go_wp2_with (go_at_call 30; refine HH.out.mono ?_; rintro e w' ⟨rfl, rfl⟩)
      go_ret
      exact ⟨rfl, rfl⟩
    · rw [hb] at HH
      rw [withN_of hb]
      clear h hb
      go_enter Try.func31, Try.ntmps31
      go_wp2_with (go_at_call 30; refine HH.out.mono ?_; rintro e w' ⟨rfl, rfl⟩)
      go_ret
      exact ⟨rfl, rfl⟩
  · rw [withI_out h]
    rw [hasB_out h] at HH
    by_cases h0 : t < 0
    · clear h
      go_enter Try.func31, Try.ntmps31
      go_wp2_with (go_at_call 30; refine HH.out.mono ?_; rintro e w' ⟨rfl, rfl⟩)
      go_ret
      exact ⟨rfl, rfl⟩
    · have h1 : decide (63 < t) = true := decide_eq_true (by omega)
      have h2 : 63 < t := by omega
      have h3 : decide (t < 0) = false := decide_eq_false h0
      clear h
      go_enter Try.func31, Try.ntmps31
      go_wp2_with (go_at_call 30; refine HH.out.mono ?_; rintro e w' ⟨rfl, rfl⟩)
      go_ret
      exact ⟨rfl, rfl⟩

/-- What a division by the frame, rounded down, leaves. -/
def modN (n : Int) (f : Nat) : Nat := (n % (f : Int)).toNat
theorem modN_cast {n : Int} {f : Nat} (h : 0 < f) : (modN n f : Int) = n % (f : Int) := by
  unfold modN
  exact Int.toNat_of_nonneg (Int.emod_nonneg _ (by omega))
theorem modN_lt {n : Int} {f : Nat} (h : 0 < f) : modN n f < f := by
  have h1 := modN_cast (n := n) h
  have := Int.emod_lt_of_pos n (show (0 : Int) < (f : Int) by omega)
  omega
theorem tmod_cases (n : Int) {f : Nat} (h : 0 < f) : (0 ≤ n.tmod f ∧ n.tmod f = modN n f) ∨ (n.tmod f < 0 ∧ n.tmod f + f = modN n f) := by
  rw [modN_cast h]
  rw [Int.tmod_eq_emod]
  by_cases h0 : 0 ≤ n ∨ (f : Int) ∣ n
  · rw [if_pos h0]
    left
    have := Int.emod_nonneg n (show (f : Int) ≠ 0 by omega)
    omega
  · rw [if_neg h0]
    right
    have := Int.emod_lt_of_pos n (show (0 : Int) < (f : Int) by omega)
    simp
    omega
theorem tmod_bound (n : Int) {f : Nat} (h : 0 < f) (hf : f ≤ 64) : -64 ≤ n.tmod f ∧ n.tmod f < 64 := by
  have := modN_lt (n := n) h
  rcases tmod_cases n h with h1 | h1 <;> omega

theorem wrap64_small4 {n : Int} (h : -4611686018427387904 ≤ n) (h1 : n ≤ 4611686018427387904) : wrap64 n = n := by
  unfold wrap64
  omega
theorem modulo_word (n : Int) (f : Nat) (h0 : 0 < f) (hf : f ≤ 64) : (wrap64 (n.tmod f + f)).tmod f = modN n f := by
  have hc := tmod_cases n h0
  have hb := tmod_bound n h0 hf
  have hl := modN_lt (n := n) h0
  generalize n.tmod f = r at *
  rw [wrap64_small4 (by omega) (by omega), Int.tmod_eq_emod_of_nonneg (by omega)]
  rcases hc with ⟨h1, h2⟩ | ⟨h1, h2⟩
  · rw [Int.add_emod_right, Int.emod_eq_of_lt (by omega) (by omega)]; omega
  · rw [Int.emod_eq_of_lt (by omega) (by omega)]; omega

/-- A tick, so much later, round. -/
def laterN (f l i : Nat) : Nat := (i + l) % f
theorem later_word (f i : Nat) (k : Int) (h0 : 0 < f) (hf : f ≤ 64) (hi : i ≤ 64) : ((i : Int) + modN k f) % f = (laterN f (modN k f) i : Int) := by
  have hl := modN_lt (n := k) h0
  generalize modN k f = l at *
  unfold laterN
  simp
end Go.Proofs.Ytkgkanmccaodfaa

/-
  slices.IndexFunc, slices.ContainsFunc over spans.
  Conditions: the predicate, whatever the world, answers so, and leaves all that was.
-/
set_option linter.unusedVariables false
namespace Go.Proofs.Ytkgkanmccaodfaa
open Go.RowKit

/-- A predicate that may make memory. -/
def PredS (g : Nat) (lb : Array Value) (p : Sp → Bool) (w : World) : Prop :=
  ∀ (W : World) (x : Sp), Below w.heap.size w W → Calls Try.prog g (#[.agg #[.int .i64 x.1, .int .i64 x.2]] ++ lb) W (RetB (.bool (p x)) W)
/-- The first at which it holds, or -1. -/
def FirstOf (p : Sp → Bool) (ps : List Sp) (r : Int) : Prop :=
  (r = -1 ∧ ∀ s ∈ ps, p s = false) ∨ ∃ (k : Nat) (s : Sp), r = k ∧ ps[k]? = some s ∧ p s = true ∧ ∀ (j : Nat) (t : Sp), j < k → ps[j]? = some t → p t = false
theorem FirstOf.any {p : Sp → Bool} {ps : List Sp} {r : Int} (h : FirstOf p ps r) : decide (r ≥ 0) = ps.any p := by
  rcases h with ⟨rfl, h⟩ | ⟨k, s, rfl, hk, hp, _⟩
  · have : ps.any p = false := by
      rw [List.any_eq_false]
      intro x hx
      rw [h x hx]; simp
    rw [this]; rfl
  · have : ps.any p = true := List.any_eq_true.2 ⟨s, List.mem_of_getElem? hk, hp⟩
    rw [this]; simp

set_option maxRecDepth 100000 in
set_option maxHeartbeats 2000000 in
theorem index_any (g : Nat) (lb : Array Value) (eg : ∀ args w, (callFunc g args).run Try.prog w = .ok (.enter g args) w) (p : Sp → Bool) (v : Value) (ps : List Sp) (w : World) (hp : PredS g lb p w) (h : SpansAt w v ps) :
    Calls Try.prog 95 #[v, .func (.func g) #[] lb] w (fun e w' => ∃ r, e = .returned (.int .i64 r) ∧ FirstOf p ps r ∧ Below w.heap.size w w') := by
  obtain ⟨A, c, rfl, hc1, hlen, hc2, hat⟩ := h
  have HAT := Lib.hid hat
  have HP := Lib.hid hp
  generalize hn : ps.length = n at *
  have HN := Lib.hid hn
  clear hat hp hn
  go_enter Try.func95, Try.ntmps95
  go_wp2
  go_loopg [5, 8] n (fun gg _ s8 wr => ∃ kk : Nat, kk ≤ n ∧ gg = n - kk ∧ s8 = .int .i64 kk ∧ Below w.heap.size w wr ∧ ∀ (j : Nat) (t : Sp), j < kk → ps[j]? = some t → p t = false)
  case atStart => exact ⟨0, Nat.zero_le _, by omega, rfl, Below.refl _ w, fun j t hj => absurd hj (Nat.not_lt_zero _)⟩
  case round =>
    obtain ⟨k, hk, hg, rfl, hbw, hall⟩ := hrel
    have HB := Lib.hid hbw
    have HALL := Lib.hid hall
    have HG := Lib.hid hg
    clear hbw hall hg
    by_cases hlt : k < n
    · have hltz : (k : Int) < (n : Int) := by omega
      obtain ⟨b, off, hA, hbl, hcell⟩ := HAT.out (by omega)
      subst hA
      obtain ⟨y, hy⟩ := ex_at (xs := ps) (k := k) (by rw [HN.out]; exact hlt)
      obtain ⟨hc1', hc2'⟩ := (hcell k y hy).keep HB.out hbl
      have hcall := HP.out wr y HB.out
      have HY := Lib.hid hy
      clear hcell hy
      cases hq : p y with
      | true =>
        rw [hq] at hcall
        have HC := Lib.hid hcall
        have HQ := Lib.hid hq
        clear hcall hq
        obtain ⟨y1, y2⟩ := y
        simp only at hc1' hc2'
        go_wp2_with (go_at_fn g; refine HC.out.mono ?_; rintro e w' ⟨rfl, hb'⟩)
        go_ret
        exact ⟨k, rfl, .inr ⟨k, _, rfl, HY.out, HQ.out, HALL.out⟩, HB.out.trans (hb'.mono HB.out.size)⟩
      | false =>
        rw [hq] at hcall
        have HC := Lib.hid hcall
        have HQ := Lib.hid hq
        clear hcall hq
        obtain ⟨y1, y2⟩ := y
        simp only at hc1' hc2'
        go_wp2_with (go_at_fn g; refine HC.out.mono ?_; rintro e w' ⟨rfl, hb'⟩)
        go_roundg (n - (k + 1))
        case measure => have := HG.out; omega
        case rel =>
          refine ⟨k + 1, by omega, rfl, by go_num, HB.out.trans (hb'.mono HB.out.size), fun j t hj ht => ?_⟩
          by_cases e : j = k
          · subst e
            have := HY.out
            rw [this] at ht
            rw [← Option.some.inj ht]
            exact HQ.out
          · exact HALL.out j t (by omega) ht
    · have hltz : ¬ (k : Int) < (n : Int) := by omega
      go_wp2
      go_ret
      refine ⟨-1, rfl, .inl ⟨rfl, fun s hs => ?_⟩, HB.out⟩
      obtain ⟨j, hj, e⟩ := List.getElem_of_mem hs
      exact HALL.out j s (by have := HN.out; omega) (by rw [List.getElem?_eq_getElem hj, e])

theorem contains_any (g : Nat) (lb : Array Value) (eg : ∀ args w, (callFunc g args).run Try.prog w = .ok (.enter g args) w) (p : Sp → Bool) (v : Value) (ps : List Sp) (w : World) (hp : PredS g lb p w) (h : SpansAt w v ps) :
    Calls Try.prog 91 #[v, .func (.func g) #[] lb] w (RetB (.bool (ps.any p)) w) := by
  have HC := Lib.hid (index_any g lb eg p v ps w hp h)
  clear hp h
  go_enter Try.func91, Try.ntmps91
  go_wp2_with (go_at_call 95; refine HC.out.mono ?_; rintro e w' ⟨r, rfl, hr, hb⟩)
  all_goals go_ret
  all_goals (refine ⟨?_, hb⟩; rw [← hr.any]; simp_all)
end Go.Proofs.Ytkgkanmccaodfaa

/-
  cmp.Compare, cmp.Or, the program's compare and Ahead, the document's Ahead.
  Conditions: none.
-/
set_option linter.unusedVariables false
namespace Go.Proofs.Ytkgkanmccaodfaa
open Go.RowKit Go.Sort

def cmpI (p q : Int) : Int := if p < q then -1 else if q < p then 1 else 0

theorem isNaN_any (a : Int) (w : World) : Calls Try.prog 94 #[.int .i64 a] w (Ret (.bool false) w) := by
  have h : (a != a) = false := by simp
  go_enter Try.func94, Try.ntmps94
  go_wp2
  go_ret
  exact ⟨rfl, rfl⟩

theorem compareInt_any (p q : Int) (w : World) : Calls Try.prog 87 #[.int .i64 p, .int .i64 q] w (Ret (.int .i64 (cmpI p q)) w) := by
  by_cases h1 : p < q
  · have e : Hid (cmpI p q = -1) := by show _ = _; unfold cmpI; rw [if_pos h1]
    go_enter Try.func87, Try.ntmps87
    go_wp2_with (go_at_call 94; refine (isNaN_any _ _).mono ?_; rintro e w' ⟨rfl, rfl⟩)
    go_ret
    exact ⟨ret_int e.out.symm, rfl⟩
  · have h1' : q ≤ p := by omega
    by_cases h2 : q < p
    · have e : Hid (cmpI p q = 1) := by show _ = _; unfold cmpI; rw [if_neg h1, if_pos h2]
      clear h1
      go_enter Try.func87, Try.ntmps87
      go_wp2_with (go_at_call 94; refine (isNaN_any _ _).mono ?_; rintro e w' ⟨rfl, rfl⟩)
      go_ret
      exact ⟨ret_int e.out.symm, rfl⟩
    · have h2' : p ≤ q := by omega
      have e : Hid (cmpI p q = 0) := by show _ = _; unfold cmpI; rw [if_neg h1, if_neg h2]
      clear h1 h2
      go_enter Try.func87, Try.ntmps87
      go_wp2_with (go_at_call 94; refine (isNaN_any _ _).mono ?_; rintro e w' ⟨rfl, rfl⟩)
      go_ret
      exact ⟨ret_int e.out.symm, rfl⟩

/-- compare's answer, all that was left as it was. -/
theorem below_growN {B : Nat} {a W : World} (h : Go.RowKit.Below B a W) (hB : B ≤ W.heap.size) (n : Nat) (os : Array Obj) : Go.RowKit.Below B a (grow (W.drewN n) os) := by
  refine h.trans ⟨rfl, rfl, rfl, ?_, fun k hk => ?_⟩
  · show W.heap.size ≤ (W.heap ++ os).size
    simp
  · show (W.heap ++ os)[k]? = _
    rw [Array.getElem?_append_left (by omega)]
end Go.Proofs.Ytkgkanmccaodfaa

/-
  Has of the document, hasCore, isWhole, wantOf, compareUnits of the program.
  Conditions: the numbers are of their kinds.
-/
set_option linter.unusedVariables false
namespace Go.Proofs.Ytkgkanmccaodfaa
open Go.RowKit Go.Sort

theorem hasB_core {m : Nat} {c : Int} (h : 0 ≤ c ∧ c < 16) : hasB m c = hasC m c := by
  obtain ⟨C, rfl⟩ := Int.eq_ofNat_of_zero_le h.1
  rw [hasB_nat (by omega), hasC_nat (by omega)]
theorem conv32 (m : Nat) (hm : m < 4294967296) : IntKind.u64.wrap (m : Int) = (m : Int) := by rw [IntKind.wrap_u64]; omega

set_option maxHeartbeats 1000000 in
theorem refHasC_any (f : Int) (m : Nat) (v : Value) (c : Int) (w : World) (hm : m < 4294967296) :
    Calls Try.prog 29 #[planA f m v, .int .i64 c] w (RetB (.bool (hasC m c)) w) := by
  have hconv := conv32 m hm
  obtain ⟨w1, P, hw1, hP, hPl, hb1, hbox⟩ := box_any w #[.int .i64 f, .int .u32 m, v] 25
  have HB1 := Lib.hid hb1
  obtain ⟨r0, r1, r2⟩ := three_heads hbox
  clear hb1 hbox
  unfold planA
  by_cases h0 : 0 ≤ c
  · by_cases h1 : c ≤ 15
    · have HH := Lib.hid (fun W => refHas_any m c W (by omega))
      rw [hasB_core ⟨h0, by omega⟩] at HH
      generalize hasC m c = r at *
      go_enter Try.func29, Try.ntmps29
      go_wp2_with (go_at_call 30; refine (HH.out _).mono ?_; rintro e w' ⟨rfl, rfl⟩)
      go_ret
      exact ⟨rfl, HB1.out⟩
    · rw [hasC_out (by omega)]
      have h1' : decide (c ≤ 15) = false := decide_eq_false h1
      go_enter Try.func29, Try.ntmps29
      go_wp2
      go_ret
      exact ⟨rfl, HB1.out⟩
  · rw [hasC_out (by omega)]
    have h0' : decide (0 ≤ c) = false := decide_eq_false h0
    go_enter Try.func29, Try.ntmps29
    go_wp2
    go_ret
    exact ⟨rfl, HB1.out⟩

set_option maxHeartbeats 1000000 in
theorem hasCore_any (f : Int) (m : Nat) (v : Value) (c : Int) (w : World) (hm : m < 4294967296) :
    Calls Try.prog 69 #[planA f m v, .int .i64 c] w (RetB (.bool (hasC m c)) w) := by
  have hconv := conv32 m hm
  obtain ⟨w1, P, hw1, hP, hPl, hb1, hbox⟩ := box_any w #[.int .i64 f, .int .u32 m, v] 25
  have HB1 := Lib.hid hb1
  obtain ⟨r0, r1, r2⟩ := three_heads hbox
  clear hb1 hbox
  unfold planA
  by_cases h1 : c < 16
  · have HH := Lib.hid (fun W => has_any m c W (by omega))
    have e : hasB m c = hasC m c := by
      by_cases h0 : 0 ≤ c
      · exact hasB_core ⟨h0, h1⟩
      · rw [hasB_out (by omega), hasC_out (by omega)]
    rw [e] at HH
    generalize hasC m c = r at *
    go_enter Try.func69, Try.ntmps69
    go_wp2_with (go_at_call 77; refine (HH.out _).mono ?_; rintro e w' ⟨rfl, rfl⟩)
    go_ret
    exact ⟨rfl, HB1.out⟩
  · rw [hasC_out (by omega)]
    have h1' : decide (c < 16) = false := decide_eq_false h1
    go_enter Try.func69, Try.ntmps69
    go_wp2
    go_ret
    exact ⟨rfl, HB1.out⟩

set_option maxHeartbeats 1000000 in
theorem isWhole_any (F : Nat → Prop) (A : Option Addr) (n d : Nat) (x : Pl) (w : World) :
    Calls Try.prog 68 #[plA (.slice A n d) x] w (RetB (.bool (decide (n = 0))) w) := by
  obtain ⟨w1, P, hw1, hP, hPl, hb1, hbox⟩ := box_any w #[.int .i64 x.u, .int .i64 x.s, .int .i64 x.c, .slice A n d] 38
  have HB1 := Lib.hid hb1
  obtain ⟨r0, r1, r2, r3⟩ := four_heads hbox
  clear hb1 hbox
  unfold plA
  cases hn : decide (n = 0) with
  | true =>
    have hz : ((n : Int) == 0) = true := by have := of_decide_eq_true hn; subst this; rfl
    clear hn
    go_enter Try.func68, Try.ntmps68
    go_wp2
    go_ret
    exact ⟨rfl, HB1.out⟩
  | false =>
    have hz : ((n : Int) == 0) = false := by have := of_decide_eq_false hn; simpa using this
    clear hn
    go_enter Try.func68, Try.ntmps68
    go_wp2
    go_ret
    exact ⟨rfl, HB1.out⟩

set_option maxHeartbeats 1000000 in
theorem compareUnits_any (v v' : Value) (x y : Pl) (w : World) :
    Calls Try.prog 67 #[plA v x, plA v' y] w (RetB (.int .i64 (cmpI x.u y.u)) w) := by
  obtain ⟨w1, P, hw1, hP, hPl, hb1, hbox⟩ := box_any w #[.int .i64 x.u, .int .i64 x.s, .int .i64 x.c, v] 38
  obtain ⟨w2, Q, hw2, hQ, hQl, hb2, hbox2⟩ := box_any w1 #[.int .i64 y.u, .int .i64 y.s, .int .i64 y.c, v'] 38
  have HB1 := Lib.hid (hb1.trans (hb2.mono hb1.size))
  obtain ⟨r0, _, _, _⟩ := four_heads (keep_block hbox hb2)
  obtain ⟨q0, _, _, _⟩ := four_heads hbox2
  have HC := Lib.hid (fun W => compareInt_any x.u y.u W)
  generalize cmpI x.u y.u = r at *
  clear hb1 hbox hb2 hbox2
  unfold plA
  go_enter Try.func67, Try.ntmps67
  go_wp2_with (go_at_call 87; refine (HC.out _).mono ?_; rintro e w' ⟨rfl, rfl⟩)
  go_ret
  exact ⟨rfl, HB1.out⟩

set_option maxHeartbeats 1000000 in
theorem wantOf_any (v : Value) (x : Pl) (w : World) :
    Calls Try.prog 86 #[plA v x] w (RetB (.agg #[.int .i64 x.u, .int .i64 x.s]) w) := by
  obtain ⟨w1, P, hw1, hP, hPl, hb1, hbox⟩ := box_any w #[.int .i64 x.u, .int .i64 x.s, .int .i64 x.c, v] 38
  obtain ⟨r0, r1, r2, r3⟩ := four_heads hbox
  have HB1 := Lib.hid hb1
  clear hb1 hbox
  unfold plA
  go_enter Try.func86, Try.ntmps86
  go_wp2_with fail
  refine bodyPost_ret (v := .agg #[.int .i64 x.u, .int .i64 x.s]) (results_cell_row rfl _ _ w1.heap.size _ _ _ _ rfl (heap_alloc_new w1 _) Try.underlying35 rfl (Try.sizeWt _ _)) rfl ?_
  exact ⟨rfl, HB1.out.trans ((Below.refl _ w1).alloc HB1.out.size _)⟩
end Go.Proofs.Ytkgkanmccaodfaa
