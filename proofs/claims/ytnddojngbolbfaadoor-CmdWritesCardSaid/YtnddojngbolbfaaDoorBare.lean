/-
  fault.bare: out of a slice of links it makes an error that has just these links and nothing between them.
  Conditions: at most 1048576 links.
-/
import Derived.Test.YtnddojngbolbfaaDoorBack
namespace Go.Proofs.YtnddojngbolbfaaDoor
open Go.RowKit Go.Shelf

attribute [local go_sem] Oper.semAt_some

/-- A link alone, without its block. -/
def Item.key (i : Item) : Int × ByteArray × Int := (i.code, i.part, i.pos)

theorem Chain.grown {B : Nat} {w w' : World} {v : Value} {is : List Item} (c : Chain B w v is) {row : Option Nat} (hg : w.grownBy w' row) (hr : ∀ r, row = some r → ∃ o : Obj, w.heap[r]? = some o ∧ o.isCells = false) : Chain B w' v is := by
  induction c with
  | nil => exact .nil
  | fault i hb hc _ ih =>
    refine .fault i hb ((hg.block _ (Array.getElem?_eq_some_iff.1 hc).1 ?_).trans hc) ih
    intro e
    obtain ⟨o, h1, h2⟩ := hr _ e.symm
    rw [hc] at h1
    cases h1
    cases h2

def boxedLink (W : World) (B : Nat) (i : Item) : Prop := W.heap[B]? = some (.cells #[.int .i64 i.code, .string i.part, .int .i64 i.pos] 51 (0, 0))

theorem boxedLink.cells {W : World} {B : Nat} {i : Item} (h : boxedLink W B i) : W.cell? ⟨B, 0, none⟩ = some (.int .i64 i.code) ∧ W.cell? ⟨B, 1, none⟩ = some (.string i.part) ∧ W.cell? ⟨B, 2, none⟩ = some (.int .i64 i.pos) := by
  have h' : W.heap[B]? = _ := h
  refine ⟨?_, ?_, ?_⟩ <;> simp [World.cell?, h']

/-- What the loop of bare keeps: the variable err, and the error that it holds. -/
def BareI (w : World) (pre : List (Nat × Item)) (W : World) : Prop :=
  (∃ v js, Boxed W w.heap.size 27 v ∧ Chain W.heap.size W v js ∧ js.map Item.key = (pre.map (·.2)).reverse.map Item.key) ∧ Below w.heap.size w W ∧ w.heap.size + 2 ≤ W.heap.size

theorem bareI_own (w : World) (B : Nat) (hB : w.heap.size ≤ B) : OwnFrom B (BareI w) := by
  intro pre W W' row hs hg hr
  obtain ⟨⟨v, js, hbx, hch, hk⟩, hb, hz⟩ := hs
  refine ⟨⟨v, js, ?_, (hch.grown hg (fun r e => (hr r e).2)).up hg.size, hk⟩, hb.grown hg hb.size (fun k e => Nat.le_trans hB (hr k e).1), Nat.le_trans hz hg.size⟩
  refine (hg.block _ hbx.lt ?_).trans hbx
  intro e
  obtain ⟨_, o, h1, h2⟩ := hr _ e.symm
  rw [show W.heap[w.heap.size]? = _ from hbx] at h1
  cases h1
  cases h2

theorem boxedLink_own (B Bx : Nat) (i : Item) : OwnFrom B (fun (_ : Unit) W => boxedLink W Bx i) := by
  intro _ W W' row hs hg hr
  refine (hg.block _ (Array.getElem?_eq_some_iff.1 hs).1 ?_).trans hs
  intro e
  obtain ⟨_, o, h1, h2⟩ := hr _ e.symm
  rw [show W.heap[Bx]? = _ from hs] at h1
  cases h1
  cases h2

/-- What bare comes to. -/
def BarePost (is : List Item) (w : World) (e : Ending) (w' : World) : Prop :=
  ∃ v js, e = .returned v ∧ Below w.heap.size w w' ∧ Chain w'.heap.size w' v js ∧ js.map Item.key = is.map Item.key

theorem keepB_b {n₀ Bs : Nat} {w : World} (hn : n₀ ≤ w.heap.size) (hs : Bs < w.heap.size) (W : World) (l : Nat) (o o' : Obj) (hl : w.heap.size ≤ l) (h : W.heap[l]? = some o) (h1 : o.isCells = false) (h2 : o.isWalk = false) : KeepB n₀ Bs W (W.putObj l o') :=
  ⟨belowK_b hn W l o o' hl h h1 h2, World.putObj_heap_other (by omega)⟩

theorem backPre_items (is : List Item) : ((backPre is 0).map (·.2)).reverse = is := by
  rw [backPre_all, List.map_reverse, List.reverse_reverse, List.map_map]
  have : ((fun x : Nat × Item => x.2) ∘ fun p : Item × Nat => (p.2, p.1)) = Prod.fst := rfl
  rw [this, List.zipIdx_map_fst]

theorem Chain.setBox {B : Nat} {w : World} {v : Value} {is : List Item} (c : Chain B w v is) {b : Nat} {t : TypeId} {u : Value} (hb : Boxed w b t u) (x : Value) : Chain B (w.setCell ⟨b, 0, none⟩ x) v is := by
  induction c with
  | nil => exact .nil
  | fault i hi hc _ ih =>
    refine .fault i hi ?_ ih
    rw [Below.heap_setCell _ _ _ _ (by
      intro e
      have e' : i.b = b := e
      subst e'
      rw [show w.heap[i.b]? = _ from hb] at hc
      cases hc)]
    exact hc

theorem bare_round {w W : World} {pre : List (Nat × Item)} {ix : Nat} {i : Item} {v : Value} {js : List Item} (hbx : Boxed W w.heap.size 27 v) (hch : Chain W.heap.size W v js)
    (hk : js.map Item.key = (pre.map (·.2)).reverse.map Item.key) (hB1 : Below w.heap.size w W) (hz : w.heap.size + 2 ≤ W.heap.size) (B : Nat) :
    KeepsFrom B W ((W.setCell ⟨w.heap.size, 0, none⟩ (.iface 80 (.pointer (some ⟨W.heap.size, 0, none⟩)))).alloc (.cells #[.int .i64 i.code, .string i.part, .int .i64 i.pos, v] 83)) ∧
    KeepB w.heap.size (w.heap.size + 1) W ((W.setCell ⟨w.heap.size, 0, none⟩ (.iface 80 (.pointer (some ⟨W.heap.size, 0, none⟩)))).alloc (.cells #[.int .i64 i.code, .string i.part, .int .i64 i.pos, v] 83)) ∧
    BareI w (pre ++ [(ix, i)]) ((W.setCell ⟨w.heap.size, 0, none⟩ (.iface 80 (.pointer (some ⟨W.heap.size, 0, none⟩)))).alloc (.cells #[.int .i64 i.code, .string i.part, .int .i64 i.pos, v] 83)) := by
  have hb1 : Below w.heap.size W (W.setCell ⟨w.heap.size, 0, none⟩ (.iface 80 (.pointer (some ⟨W.heap.size, 0, none⟩)))) := (Below.refl _ W).setCell (p := ⟨w.heap.size, 0, none⟩) (Nat.le_refl _) _
  have hb2 : Below w.heap.size W ((W.setCell ⟨w.heap.size, 0, none⟩ (.iface 80 (.pointer (some ⟨W.heap.size, 0, none⟩)))).alloc (.cells #[.int .i64 i.code, .string i.part, .int .i64 i.pos, v] 83)) := hb1.alloc (by simp; omega) _
  refine ⟨((KeepsOthers.setCell _ _ _).trans (KeepsOthers.alloc _ _)).from _, ⟨hb2, ?_⟩, ⟨_, ⟨W.heap.size, i.code, i.part, i.pos⟩ :: js, (hbx.set _).alloc _, ?_, ?_⟩, hB1.trans hb2, ?_⟩
  · rw [Below.heap_alloc _ _ _ (by simp; omega), Below.heap_setCell _ _ _ _ (by show _ ≠ w.heap.size; omega)]
  · refine .fault (i := ⟨W.heap.size, i.code, i.part, i.pos⟩) (v := v) ?_ ?_ ?_
    · show W.heap.size < _
      simp
    · have e := World.alloc_heap_new (W.setCell ⟨w.heap.size, 0, none⟩ (.iface 80 (.pointer (some ⟨W.heap.size, 0, none⟩)))) (.cells #[.int .i64 i.code, .string i.part, .int .i64 i.pos, v] 83)
      rw [World.size_setCell] at e
      exact e
    · exact ((hch.setBox hbx _).kept (C := W.heap.size) (Nat.le_refl _) ((Below.refl _ _).alloc (by simp) _)).up (by simp)
  · simp [hk, Item.key]
  · simp; omega

set_option maxRecDepth 100000 in
set_option maxHeartbeats 4000000 in
theorem bare_in (F : Fence) (n : Nat) (h30 : F.fn 45) (h40 : F.fn 61) (h49 : F.fn 69) (hro : F.round = none) (hn : 3 ≤ n)
    (a : Option Addr) (len cap : Nat) (is : List Item) (hlen : is.length ≤ 1048576) (w : World) (hS : LinksAt w.heap.size w (.slice a len cap) is) :
    CallsIn F n Tryd.prog 45 #[.slice a len cap] w (BarePost is w) := by
  have h1 : 1 ≤ n := by omega
  refine callsIn_of_wp_marks Tryd.func45 rfl h30 ?_ hro
  simp only [Tryd.ntmps45, List.size_toArray, List.length_cons, List.length_nil, Nat.reduceAdd, Nat.reduceSub, Array.replicate_succ, Array.replicate_zero, List.push_toArray, List.append_toArray, List.nil_append, List.cons_append]
  gi_wp2_with (gi_at_call 61; refine (back_in F (n - 1) h40 hro _ _ _ _).mono ?_; rintro e w' ⟨rfl, rfl⟩)
  have bE := (Boxed.new w 27 .nilIface).alloc (.cells #[.slice a len cap] 48)
  have bS := Boxed.new (w.alloc (.cells #[.nilIface] 27)) 48 (.slice a len cap)
  simp only [World.size_alloc] at bS
  have hB0 : Below w.heap.size w ((w.alloc (.cells #[.nilIface] 27)).alloc (.cells #[.slice a len cap] 48)) := ((Below.refl _ w).alloc (Nat.le_refl _) _).alloc (by simp) _
  have hsz : ((w.alloc (.cells #[.nilIface] 27)).alloc (.cells #[.slice a len cap] 48)).heap.size = w.heap.size + 2 := by simp
  obtain ⟨W0, hW0⟩ : ∃ W0, (w.alloc (.cells #[.nilIface] 27)).alloc (.cells #[.slice a len cap] 48) = W0 := ⟨_, rfl⟩
  rw [hW0] at bE bS hB0 hsz ⊢
  clear hW0
  refine wpIn_rangeFunc_ownH hro h1 (gf := 69) (lb := #[.pointer (some ⟨w.heap.size + 1, 0, none⟩)]) rfl h49 (enters_of Tryd.func69 (by kernel_rfl) rfl)
    (back_stops F (n - 1) h49 hro (by omega) (w.heap.size + 1) w.heap.size (.slice a len cap) is hlen W0 (by omega) (by omega) bS.cell (hS.kept hB0)) KeepB.trans (keepB_b (by omega) (by omega)) (Below.refl _ _) (fun _ => rfl)
    (BareI w)
    (fun _ _ _ => False)
    (bareI_own w _ (by omega))
    (fun _ _ _ _ _ hs _ _ => hs)
    ⟨⟨.nilIface, [], bE, .nil, rfl⟩, hB0, by omega⟩
    (fun x a' W => ∃ Bx, w.heap.size < Bx ∧ boxedLink W Bx x.2 ∧ a' = { tmps := #[.slice a len cap, undef, .nilIface, .pointer (some ⟨w.heap.size, 0, none⟩), undef, .pointer (some ⟨Bx, 0, none⟩), .slice a len cap, .func (.func 69) #[] #[.pointer (some ⟨w.heap.size + 1, 0, none⟩)], .int .i64 (x.1 : Int), .agg #[.int .i64 x.2.code, .string x.2.part, .int .i64 x.2.pos], undef, undef, undef, undef, undef, undef], defers := [] })
    (fun x a' _ X Y row hs hg hr => by obtain ⟨Bx, h1, h2, h3⟩ := hs; exact ⟨Bx, h1, boxedLink_own _ Bx x.2 () X Y row h2 hg hr, h3⟩)
    ?assign ?body ?done ?stop
  case assign =>
    rintro l pre ⟨ix, i⟩ W K ⟨⟨v, js, hbx, hch, hk⟩, hB1, hz⟩ hK
    dsimp only [encLink] at *
    have hltb := hbx.lt
    have HC := Lib.hid hch
    have HK := Lib.hid hk
    clear hch hk
    gi_wp2
    refine hK _ _ ((KeepsOthers.alloc _ _).from _) ⟨(Below.refl _ W).alloc hB1.size _, Below.heap_alloc _ _ _ (by omega)⟩
      ⟨⟨v, js, hbx.alloc _, (HC.out.kept (Nat.le_refl _) ((Below.refl _ _).alloc (Nat.le_refl _) _)).up (by simp), HK.out⟩, hB1.alloc hB1.size _, by simp; omega⟩ ⟨W.heap.size, hltb, ?_, rfl⟩
    exact World.alloc_heap_new W _
  case body =>
    rintro l pre ⟨ix, i⟩ a' W hl ⟨r, hr⟩ ⟨⟨v, js, hbx, hch, hk⟩, hB1, hz⟩ ⟨Bx, hBx, bX, rfl⟩ hlt
    obtain ⟨c0, c1, c2⟩ := bX.cells
    have cE := hbx.cell
    have fE := hbx.frozen
    have hltb := hbx.lt
    have HC := Lib.hid hch
    have HK := Lib.hid hk
    have hvi : v = .nilIface ∨ ∃ T x, v = .iface T x := by
      by_cases hv : v = .nilIface
      · exact .inl hv
      · exact .inr (hch.iface hv)
    clear hch hk bX
    dsimp only at *
    rcases hvi with rfl | ⟨T, x, rfl⟩
    all_goals gi_wp2
    · exact bare_round hbx HC.out HK.out hB1 hz _
    · exact bare_round hbx HC.out HK.out hB1 hz _
  case done =>
    rintro D zs W hD rfl ⟨⟨v, js, hbx, hch, hk⟩, hB1, hz⟩ hK
    have cE := hbx.cell
    have HC := Lib.hid hch
    have HK := Lib.hid hk
    clear hch hk
    gi_wp2
    refine ⟨by simp, .inl ⟨_, _, rfl, run_takeDeferred hK, ?_⟩⟩
    have hb3 := belowK_b (w := W0) (n₀ := w.heap.size) (by omega) W D _ (.deferred none) hD hK rfl rfl
    refine ⟨_, results_tmp rfl _ _ _, v, js, rfl, hB1.trans hb3, ?_, ?_⟩
    · exact (HC.out.grown (grownBy_putObj' W D (.deferred none)) (fun r e => by cases e; exact ⟨_, hK, rfl⟩)).up (by simp [World.putObj])
    · rw [HK.out, backPre_items]
  case stop =>
    rintro D c pre W _ _ h _
    exact h.elim
end Go.Proofs.YtnddojngbolbfaaDoor
