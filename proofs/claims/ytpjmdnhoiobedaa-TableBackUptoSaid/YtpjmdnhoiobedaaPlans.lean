/-
  Plans in memory: slices that read as pieces, as places; a plan's box.
  Conditions: none.
-/
import Derived.Test.YtpjmdnhoiobedaaPlanMath
import Derived.Test.YtpjmdnhoiobedaaRets
import Derived.Maps.AppendAt
import Derived.WalkSpells
import Derived.Lib.SliceRun
import Derived.BigRegion
import Derived.Deep.Cut
import Derived.Deep.CutRange
import Derived.Deep.CutBlock
set_option linter.unusedVariables false
namespace Go.Proofs.Ytpjmdnhoiobedaa
open Go.RowKit

theorem heap_lt {W : World} {b : Nat} {o : Obj} (h : W.heap[b]? = some o) : b < W.heap.size := (Array.getElem?_eq_some_iff.1 h).1
theorem cell_same {W W' : World} {b : Nat} (h : W'.heap[b]? = W.heap[b]?) (o : Nat) : W'.cell? ⟨b, o, none⟩ = W.cell? ⟨b, o, none⟩ := World.cell?_of_block (w := W) h
theorem wrap64_small {i : Int} (h0 : -9223372036854775808 ≤ i) (h1 : i ≤ 9223372036854775807) : wrap64 i = i := IntWalk.wrap64_in i ⟨h0, h1⟩
theorem ret_natU {k : IntKind} {a b : Nat} (h : a = b) : Ending.returned (.int k a) = .returned (.int k b) := by rw [h]

/-- But for the blocks of F, what was there is as it was. -/
structure Apart (F : Nat → Prop) (w w' : World) : Prop where
  os : w'.os = w.os
  tape : w'.tape = w.tape
  output : w'.output = w.output
  size : w.heap.size ≤ w'.heap.size
  block : ∀ k, k < w.heap.size → ¬ F k → w'.heap[k]? = w.heap[k]?
theorem Apart.refl (F : Nat → Prop) (w : World) : Apart F w w := ⟨rfl, rfl, rfl, Nat.le_refl _, fun _ _ _ => rfl⟩
theorem Apart.trans {F F' : Nat → Prop} {a b c : World} (h : Apart F a b) (k : Apart F' b c) (hF : ∀ x, x < a.heap.size → F' x → F x) : Apart F a c :=
  ⟨k.os.trans h.os, k.tape.trans h.tape, k.output.trans h.output, Nat.le_trans h.size k.size, fun x hx hn => (k.block x (Nat.lt_of_lt_of_le hx h.size) (fun hf => hn (hF x hx hf))).trans (h.block x hx hn)⟩
theorem Apart.of_below {F : Nat → Prop} {w w' : World} (h : Below w.heap.size w w') : Apart F w w' := ⟨h.os, h.tape, h.output, h.size, fun k hk _ => h.block k hk⟩
theorem Apart.below {F : Nat → Prop} {B : Nat} {w w' : World} (h : Apart F w w') (hB : B ≤ w.heap.size) (hF : ∀ k, k < B → ¬ F k) : Below B w w' :=
  ⟨h.os, h.tape, h.output, h.size, fun k hk => h.block k (by omega) (hF k hk)⟩

theorem Apart.drewN {F : Nat → Prop} {a w : World} (h : Apart F a w) (n : Nat) : Apart F a (w.drewN n) := ⟨h.os, h.tape, h.output, h.size, h.block⟩
theorem Apart.set {F : Nat → Prop} {a w : World} (h : Apart F a w) {p : Addr} (hp : F p.block ∨ a.heap.size ≤ p.block) (u : Value) : Apart F a (w.setCell p u) :=
  h.trans (F' := fun k => k = p.block) ⟨rfl, rfl, rfl, by simp [World.setCell], fun k hk hn => Below.heap_setCell _ _ _ _ hn⟩ (fun x hx e => by
    subst e
    rcases hp with hp | hp
    · exact hp
    · omega)
theorem heap_setCell_mem (w : World) (b o : Nat) (cs : Array Value) (T : TypeId) (fr : Nat × Nat) (x : Value) (h : w.heap[b]? = some (.cells cs T fr)) : (w.setCell ⟨b, o, none⟩ x).heap[b]? = some (.cells (cs.setIfInBounds o x) T fr) := by
  have hlt := (Array.getElem?_eq_some_iff.1 h).1
  have h' : w.heap[b] = .cells cs T fr := by simpa [Array.getElem?_eq_getElem hlt] using h
  show (w.heap.modify b _)[b]? = _
  rw [Array.getElem?_eq_getElem (by simpa using hlt), Array.getElem_modify_self, h']
  rfl
theorem own_keep {w w' : World} {base e size n : Nat} {v : Value} {xs : List Value} (h : w.ownsRow base e size v n xs) (hk : ∀ k, v.ownBlock = some k → w'.heap[k]? = w.heap[k]?) : w'.ownsRow base e size v n xs := by
  obtain ⟨h1, h2⟩ := h
  refine ⟨h1, ?_⟩
  rcases h2 with h2 | ⟨g, cap, cur, rfl, hg, hh, r⟩
  · exact .inl h2
  · exact .inr ⟨g, cap, cur, rfl, hg, (hk g rfl).trans hh, r⟩
theorem own_lt {w : World} {base e size n : Nat} {v : Value} {xs : List Value} (h : w.ownsRow base e size v n xs) {k : Nat} (hk : v.ownBlock = some k) : k < w.heap.size := by
  rcases h.2 with ⟨rfl, h0⟩ | ⟨g, cap, cur, rfl, hg, hh, _⟩
  · cases hk
  · cases hk
    exact heap_lt hh

theorem Try.infoPc : (Try.prog.info? 61).map (fun i => (i.zero, i.size, i.bytes)) = some (some (.agg #[.int .i64 0, .int .u64 0]), 2, 16) := by kernel_rfl
theorem Try.infoPl : (Try.prog.info? 56).map (fun i => (i.zero, i.size, i.bytes)) = some (some (.agg #[.int .i64 0, .int .i64 0, .int .i64 0, .slice none 0 0]), 4, 48) := by kernel_rfl
theorem Try.infoPn : (Try.prog.info? 25).map (fun i => (i.zero, i.size, i.bytes)) = some (some (.agg #[.int .i64 0, .int .u32 0, .slice none 0 0]), 3, 40) := by kernel_rfl

def pcCells (y : Pc) : List Value := [.int .i64 y.c, .int .u64 y.t]
def pcA (y : Pc) : Value := .agg #[.int .i64 y.c, .int .u64 y.t]
/-- A place by value: its pieces' slice beside it. -/
def plA (v : Value) (x : Pl) : Value := .agg #[.int .i64 x.u, .int .i64 x.s, .int .i64 x.c, v]
def planA (f : Int) (m : Nat) (v : Value) : Value := .agg #[.int .i64 f, .int .u32 m, v]
/-- A piece lies at an address. -/
def PcAt (W : World) (b o : Nat) (y : Pc) : Prop := W.cell? ⟨b, o, none⟩ = some (.int .i64 y.c) ∧ W.cell? ⟨b, o + 1, none⟩ = some (.int .u64 y.t)
/-- The value reads as pieces that lie in a block of F. -/
def PcsIn (F : Nat → Prop) (W : World) (v : Value) (ps : List Pc) : Prop :=
  ∃ A c, v = .slice A ps.length c ∧ ps.length ≤ c ∧ c ≤ 9223372036854775807 ∧
    (0 < ps.length → ∃ b off, A = some ⟨b, off, none⟩ ∧ b < W.heap.size ∧ F b ∧ ∀ (j : Nat) (y : Pc), ps[j]? = some y → PcAt W b (off + j * 2) y)
/-- A place lies at an address, its pieces' slice beside it. -/
def PlAt (W : World) (b o : Nat) (p : Value × Pl) : Prop :=
  W.cell? ⟨b, o, none⟩ = some (.int .i64 p.2.u) ∧ W.cell? ⟨b, o + 1, none⟩ = some (.int .i64 p.2.s) ∧ W.cell? ⟨b, o + 2, none⟩ = some (.int .i64 p.2.c) ∧ W.cell? ⟨b, o + 3, none⟩ = some p.1
abbrev plsOf (ls : List (Value × Pl)) : List Pl := ls.map Prod.snd
/-- The value reads as places, each with where its pieces lie; all in blocks of F. -/
def RawIn (F : Nat → Prop) (W : World) (v : Value) (ls : List (Value × Pl)) : Prop :=
  ∃ A c, v = .slice A ls.length c ∧ ls.length ≤ c ∧ c ≤ 9223372036854775807 ∧
    (0 < ls.length → ∃ b off, A = some ⟨b, off, none⟩ ∧ b < W.heap.size ∧ F b ∧ ∀ (j : Nat) (p : Value × Pl), ls[j]? = some p → PlAt W b (off + j * 4) p) ∧ ∀ p ∈ ls, PcsIn F W p.1 p.2.ps
def PlsIn (F : Nat → Prop) (W : World) (v : Value) (l : List Pl) : Prop := ∃ ls, plsOf ls = l ∧ RawIn F W v ls
abbrev Any : Nat → Prop := fun _ => True
abbrev PcsAt := PcsIn Any
abbrev PlsAt := PlsIn Any

theorem PcAt.keep {W W' : World} {b o : Nat} {y : Pc} (h : PcAt W b o y) (hk : W'.heap[b]? = W.heap[b]?) : PcAt W' b o y :=
  ⟨(cell_same hk _).trans h.1, (cell_same hk _).trans h.2⟩
theorem PlAt.keep {W W' : World} {b o : Nat} {p : Value × Pl} (h : PlAt W b o p) (hk : W'.heap[b]? = W.heap[b]?) : PlAt W' b o p :=
  ⟨(cell_same hk _).trans h.1, (cell_same hk _).trans h.2.1, (cell_same hk _).trans h.2.2.1, (cell_same hk _).trans h.2.2.2⟩
theorem PcsIn.mono {F G : Nat → Prop} {W : World} {v : Value} {ps : List Pc} (h : PcsIn F W v ps) (hg : ∀ b, b < W.heap.size → F b → G b) : PcsIn G W v ps := by
  obtain ⟨A, c, h1, h2, h3, h4⟩ := h
  refine ⟨A, c, h1, h2, h3, fun hn => ?_⟩
  obtain ⟨b, off, e, hlt, hf, hc⟩ := h4 hn
  exact ⟨b, off, e, hlt, hg b hlt hf, hc⟩
theorem PcsIn.any {F : Nat → Prop} {W : World} {v : Value} {ps : List Pc} (h : PcsIn F W v ps) : PcsAt W v ps := h.mono fun _ _ _ => trivial
theorem PcsIn.keepF {F : Nat → Prop} {W W' : World} {v : Value} {ps : List Pc} (h : PcsIn F W v ps) (hs : W.heap.size ≤ W'.heap.size) (hk : ∀ b, b < W.heap.size → F b → W'.heap[b]? = W.heap[b]?) : PcsIn F W' v ps := by
  obtain ⟨A, c, h1, h2, h3, h4⟩ := h
  refine ⟨A, c, h1, h2, h3, fun hn => ?_⟩
  obtain ⟨b, off, e, hlt, hf, hc⟩ := h4 hn
  exact ⟨b, off, e, Nat.lt_of_lt_of_le hlt hs, hf, fun j y hy => (hc j y hy).keep (hk b hlt hf)⟩
theorem PcsIn.keep {F : Nat → Prop} {W W' : World} {v : Value} {ps : List Pc} (h : PcsIn F W v ps) (hb : Below W.heap.size W W') : PcsIn F W' v ps := h.keepF hb.size fun b hlt _ => hb.block b hlt
theorem PcsIn.nil (F : Nat → Prop) (W : World) : PcsIn F W (.slice none 0 0) [] := ⟨none, 0, rfl, Nat.le_refl _, by decide, fun h => absurd h (by decide)⟩
theorem PcsIn.form {F : Nat → Prop} {W : World} {v : Value} {ps : List Pc} (h : PcsIn F W v ps) : ∃ A c, v = .slice A ps.length c := by
  obtain ⟨A, c, h1, _⟩ := h
  exact ⟨A, c, h1⟩
theorem PcsIn.bound {F : Nat → Prop} {W : World} {v : Value} {ps : List Pc} (h : PcsIn F W v ps) : ps.length ≤ 9223372036854775807 := by
  obtain ⟨A, c, h1, h2, h3, _⟩ := h
  omega
/-- Piece j: where it lies. -/
theorem PcsIn.at_ {F : Nat → Prop} {W : World} {A : Option Addr} {n c : Nat} {ps : List Pc} (h : PcsIn F W (.slice A n c) ps) {j : Nat} {y : Pc} (hj : ps[j]? = some y) :
    ∃ b off, A = some ⟨b, off, none⟩ ∧ b < W.heap.size ∧ F b ∧ PcAt W b (off + j * 2) y := by
  obtain ⟨A', c', h1, h2, h3, h4⟩ := h
  injection h1 with e1 e2 e3
  subst e1
  obtain ⟨b, off, e, hlt, hf, hc⟩ := h4 (by have := (List.getElem?_eq_some_iff.1 hj).1; omega)
  exact ⟨b, off, e, hlt, hf, hc j y hj⟩

theorem RawIn.mono {F G : Nat → Prop} {W : World} {v : Value} {ls : List (Value × Pl)} (h : RawIn F W v ls) (hg : ∀ b, b < W.heap.size → F b → G b) : RawIn G W v ls := by
  obtain ⟨A, c, h1, h2, h3, h4, h5⟩ := h
  refine ⟨A, c, h1, h2, h3, fun hn => ?_, fun p hp => (h5 p hp).mono hg⟩
  obtain ⟨b, off, e, hlt, hf, hc⟩ := h4 hn
  exact ⟨b, off, e, hlt, hg b hlt hf, hc⟩
theorem RawIn.keepF {F : Nat → Prop} {W W' : World} {v : Value} {ls : List (Value × Pl)} (h : RawIn F W v ls) (hs : W.heap.size ≤ W'.heap.size) (hk : ∀ b, b < W.heap.size → F b → W'.heap[b]? = W.heap[b]?) : RawIn F W' v ls := by
  obtain ⟨A, c, h1, h2, h3, h4, h5⟩ := h
  refine ⟨A, c, h1, h2, h3, fun hn => ?_, fun p hp => (h5 p hp).keepF hs hk⟩
  obtain ⟨b, off, e, hlt, hf, hc⟩ := h4 hn
  exact ⟨b, off, e, Nat.lt_of_lt_of_le hlt hs, hf, fun j p hp => (hc j p hp).keep (hk b hlt hf)⟩
theorem RawIn.keep {F : Nat → Prop} {W W' : World} {v : Value} {ls : List (Value × Pl)} (h : RawIn F W v ls) (hb : Below W.heap.size W W') : RawIn F W' v ls := h.keepF hb.size fun b hlt _ => hb.block b hlt
theorem PlsIn.mono {F G : Nat → Prop} {W : World} {v : Value} {l : List Pl} (h : PlsIn F W v l) (hg : ∀ b, b < W.heap.size → F b → G b) : PlsIn G W v l := by
  obtain ⟨ls, e, h⟩ := h
  exact ⟨ls, e, h.mono hg⟩
theorem PlsIn.any {F : Nat → Prop} {W : World} {v : Value} {l : List Pl} (h : PlsIn F W v l) : PlsAt W v l := h.mono fun _ _ _ => trivial
theorem PlsIn.keepF {F : Nat → Prop} {W W' : World} {v : Value} {l : List Pl} (h : PlsIn F W v l) (hs : W.heap.size ≤ W'.heap.size) (hk : ∀ b, b < W.heap.size → F b → W'.heap[b]? = W.heap[b]?) : PlsIn F W' v l := by
  obtain ⟨ls, e, h⟩ := h
  exact ⟨ls, e, h.keepF hs hk⟩
theorem PlsIn.keep {F : Nat → Prop} {W W' : World} {v : Value} {l : List Pl} (h : PlsIn F W v l) (hb : Below W.heap.size W W') : PlsIn F W' v l := h.keepF hb.size fun b hlt _ => hb.block b hlt
theorem PlsIn.nil (F : Nat → Prop) (W : World) : PlsIn F W (.slice none 0 0) [] := ⟨[], rfl, none, 0, rfl, Nat.le_refl _, by decide, fun h => absurd h (by decide), fun p hp => by cases hp⟩
theorem plsOf_length (ls : List (Value × Pl)) : (plsOf ls).length = ls.length := by simp
theorem PlsIn.form {F : Nat → Prop} {W : World} {v : Value} {l : List Pl} (h : PlsIn F W v l) : ∃ A c, v = .slice A l.length c ∧ l.length ≤ c ∧ c ≤ 9223372036854775807 := by
  obtain ⟨ls, rfl, A, c, h1, h2, h3, _⟩ := h
  exact ⟨A, c, by rw [plsOf_length]; exact h1, by rw [plsOf_length]; exact h2, h3⟩
/-- Place j: where it lies, and its pieces. -/
theorem PlsIn.at_ {F : Nat → Prop} {W : World} {A : Option Addr} {n c : Nat} {l : List Pl} (h : PlsIn F W (.slice A n c) l) {j : Nat} {x : Pl} (hj : l[j]? = some x) :
    ∃ b off B d, A = some ⟨b, off, none⟩ ∧ b < W.heap.size ∧ F b ∧ PlAt W b (off + j * 4) (.slice B x.ps.length d, x) ∧ PcsIn F W (.slice B x.ps.length d) x.ps := by
  obtain ⟨ls, rfl, A', c', h1, h2, h3, h4, h5⟩ := h
  injection h1 with e1 e2 e3
  subst e1
  obtain ⟨p, hp, rfl⟩ : ∃ p, ls[j]? = some p ∧ p.2 = x := by
    rw [List.getElem?_map] at hj
    obtain ⟨p, hp, e⟩ := Option.map_eq_some_iff.1 hj
    exact ⟨p, hp, e⟩
  obtain ⟨b, off, e, hlt, hf, hc⟩ := h4 (by have := (List.getElem?_eq_some_iff.1 hp).1; omega)
  have hps := h5 p (List.mem_of_getElem? hp)
  obtain ⟨B, d, hv⟩ := hps.form
  have hat := hc j p hp
  obtain ⟨u, x⟩ := p
  simp only at hv hps
  subst hv
  exact ⟨b, off, B, d, e, hlt, hf, hat, hps⟩
theorem exP_at {α : Type} {xs : List α} {k : Nat} (h : k < xs.length) : ∃ x, xs[k]? = some x := ⟨xs[k], List.getElem?_eq_getElem h⟩

/-! ### Boxes -/
theorem box_any (W : World) (cs : Array Value) (t : Nat) : ∃ w1 P, W.alloc (.cells cs t) = w1 ∧ W.heap.size = P ∧ P < w1.heap.size ∧ Below W.heap.size W w1 ∧ w1.heap[P]? = some (.cells cs t (0, 0)) :=
  ⟨_, _, rfl, rfl, by simp, (Below.refl _ W).alloc (Nat.le_refl _) _, heap_alloc_new W _⟩
theorem keep_block {W W' : World} {B : Nat} {o : Obj} (h : W.heap[B]? = some o) (hb : Below W.heap.size W W') : W'.heap[B]? = some o := (hb.block B (heap_lt h)).trans h
theorem two_heads {w : World} {P t : Nat} {a b : Value} (h : w.heap[P]? = some (.cells #[a, b] t (0, 0))) : w.cell? ⟨P, 0, none⟩ = some a ∧ w.cell? ⟨P, 1, none⟩ = some b := by
  refine ⟨?_, ?_⟩ <;> simp [World.cell?, h]
theorem three_heads {w : World} {P t : Nat} {a b c : Value} (h : w.heap[P]? = some (.cells #[a, b, c] t (0, 0))) : w.cell? ⟨P, 0, none⟩ = some a ∧ w.cell? ⟨P, 1, none⟩ = some b ∧ w.cell? ⟨P, 2, none⟩ = some c := by
  refine ⟨?_, ?_, ?_⟩ <;> simp [World.cell?, h]
theorem four_heads {w : World} {P t : Nat} {a b c d : Value} (h : w.heap[P]? = some (.cells #[a, b, c, d] t (0, 0))) : w.cell? ⟨P, 0, none⟩ = some a ∧ w.cell? ⟨P, 1, none⟩ = some b ∧ w.cell? ⟨P, 2, none⟩ = some c ∧ w.cell? ⟨P, 3, none⟩ = some d := by
  refine ⟨?_, ?_, ?_, ?_⟩ <;> simp [World.cell?, h]
theorem results_row_tmp {P : Program} {fn : Func} {p u : Tmp} {ty : TypeId} (h : fn.results = #[.cell p ty, .tmp u]) (tmps : Array Value) (w : World) (g : Nat) (t : TypeId) (cs : Array Value) (fr : Nat × Nat) (d : TypeDesc)
    (hp : tmps.getD p undef = .pointer (some ⟨g, 0, none⟩)) (hg : w.heap[g]? = some (.cells cs t fr))
    (hu : P.underlying ty = some d) (hd : (match d with | .struct _ | .array _ _ => true | _ => false) = true) (hi : (P.info? ty).map (·.size) = some cs.size) (x : Value) (hx : tmps.getD u undef = x) :
    (results fn tmps).run P w = .ok (.tuple #[.agg cs, x]) w := by
  rw [results_cell_tmp h, hp, hx]
  simp [asAddr, run_loadVar_row w g t ty cs fr d hg hu hd hi, Result.andThen]
theorem Try.sizeWt (a b : Value) : (Try.prog.info? 58).map (·.size) = some (#[a, b] : Array Value).size := by show _ = some 2; kernel_rfl
theorem Try.sizePl (a b c d : Value) : (Try.prog.info? 56).map (·.size) = some (#[a, b, c, d] : Array Value).size := by show _ = some 4; kernel_rfl
theorem Try.sizePn (a b c : Value) : (Try.prog.info? 25).map (·.size) = some (#[a, b, c] : Array Value).size := by show _ = some 3; kernel_rfl
theorem alloc_block (W : World) (o : Obj) {B : Nat} (h : W.heap.size = B) : (W.alloc o).heap[B]? = some o := by subst h; exact heap_alloc_new W o
/-- What a call answers that makes memory, as a bool that tells P. -/
def RetIff (P : Prop) (w : World) (e : Ending) (w' : World) : Prop := ∃ b : Bool, e = .returned (.bool b) ∧ (b = true ↔ P) ∧ Below w.heap.size w w'
theorem RetIff.yes {P : Prop} {w w' : World} (h : P) (hb : Below w.heap.size w w') : RetIff P w (.returned (.bool true)) w' := ⟨true, rfl, ⟨fun _ => h, fun _ => rfl⟩, hb⟩
theorem RetIff.no {P : Prop} {w w' : World} (h : ¬ P) (hb : Below w.heap.size w w') : RetIff P w (.returned (.bool false)) w' := ⟨false, rfl, ⟨(fun e => by cases e), fun hp => absurd hp h⟩, hb⟩
/-- Of a bool that is told: it is one or the other. -/
theorem calls_iff {P : Program} {f : FuncId} {args : Array Value} {w : World} {Q : Prop} (h : Calls P f args w (RetIff Q w)) : (Q → Calls P f args w (RetB (.bool true) w)) ∧ (¬ Q → Calls P f args w (RetB (.bool false) w)) :=
  ⟨fun hq => h.mono fun e w' ⟨b, he, hb, hw⟩ => ⟨by rw [he, hb.2 hq], hw⟩, fun hq => h.mono fun e w' ⟨b, he, hb, hw⟩ => ⟨by
    rw [he]
    cases b with
    | false => rfl
    | true => exact absurd (hb.1 rfl) hq, hw⟩⟩
end Go.Proofs.Ytpjmdnhoiobedaa
