/-
  A slice that reads as a list of numbers of one kind (bytes, words); a row of bytes of a call's own; what calls answer.
  Conditions: none.
-/
import Derived.Test.YtaffcpjhaacadaaProg
import Derived.WalkKit
import Derived.WalkLawsBesides
import Derived.Below
import Derived.Lib.Hide
import Derived.Handy
import Derived.ProofKit
import Derived.Deep.LoopGhost
import Derived.Deep.QuietTactic
import Derived.BigQuiet
import Derived.IntWalk
import Derived.LoopTactic
import Derived.OwnWalk
import Derived.Laws.MakeOwn
import Derived.Laws.Rows
import Derived.Laws.OwnMore
import Derived.Laws.BytesArg
import Derived.OpenShut
set_option linter.unusedVariables false
namespace Go.Proofs.Ytaffcpjhaacadaa
open Go.RowKit

theorem Try.infoByte : (Try.prog.info? 5).map (fun i => (i.zero, i.size, i.bytes)) = some (some (.int .u8 0), 1, 1) := by kernel_rfl

/-- The slice value 'v' reads as the numbers 'xs' of the kind 'k', each below M. -/
def NumsAt (k : IntKind) (M : Nat) (W : World) (v : Value) (xs : List Nat) : Prop :=
  ∃ A c, v = .slice A xs.length c ∧ xs.length ≤ c ∧ c ≤ 9223372036854775807 ∧ (A = none → c = 0) ∧ (∀ x ∈ xs, x < M) ∧
    (0 < xs.length → ∃ b off, A = some ⟨b, off, none⟩ ∧ b < W.heap.size ∧ ∀ (j : Nat) (x : Nat), xs[j]? = some x → W.cell? ⟨b, off + j, none⟩ = some (.int k x))
def BytesAt : World → Value → List Nat → Prop := NumsAt .u8 256
def WordsAt : World → Value → List Nat → Prop := NumsAt .u64 18446744073709551616

theorem NumsAt.nil (k : IntKind) (M : Nat) (W : World) : NumsAt k M W (.slice none 0 0) [] := ⟨none, 0, rfl, Nat.le_refl _, by decide, fun _ => rfl, fun x h => (by cases h), fun h => absurd h (by decide)⟩
theorem NumsAt.keep {k : IntKind} {M : Nat} {W W' : World} {v : Value} {xs : List Nat} (h : NumsAt k M W v xs) (hb : Below W.heap.size W W') : NumsAt k M W' v xs := by
  obtain ⟨A, c, h1, h2, h3, h4, h5, h6⟩ := h
  refine ⟨A, c, h1, h2, h3, h4, h5, fun hn => ?_⟩
  obtain ⟨b, off, e, hlt, hc⟩ := h6 hn
  exact ⟨b, off, e, Nat.lt_of_lt_of_le hlt hb.size, fun j x hx => (hb.cell (p := ⟨b, off + j, none⟩) hlt).trans (hc j x hx)⟩
theorem NumsAt.small {k : IntKind} {M : Nat} {W : World} {v : Value} {xs : List Nat} (h : NumsAt k M W v xs) {j x : Nat} (hx : xs[j]? = some x) : x < M := by
  obtain ⟨A, c, h1, h2, h3, h4, h5, h6⟩ := h
  exact h5 x (List.mem_of_getElem? hx)

theorem BytesAt.nil (W : World) : BytesAt W (.slice none 0 0) [] := NumsAt.nil _ _ W
theorem BytesAt.keep {W W' : World} {v : Value} {xs : List Nat} (h : BytesAt W v xs) (hb : Below W.heap.size W W') : BytesAt W' v xs := NumsAt.keep h hb
theorem WordsAt.keep {W W' : World} {v : Value} {xs : List Nat} (h : WordsAt W v xs) (hb : Below W.heap.size W W') : WordsAt W' v xs := NumsAt.keep h hb

/-- What a call answers that reads only. -/
def Ret (v : Value) (w : World) (e : Ending) (w' : World) : Prop := e = .returned v ∧ w = w'
/-- What a call answers that makes memory, and leaves all that was. -/
def RetB (v : Value) (w : World) (e : Ending) (w' : World) : Prop := e = .returned v ∧ Below w.heap.size w w'

def bytesV (xs : List Nat) : List Value := xs.map fun n : Nat => Value.int .u8 n
theorem bytesV_length (xs : List Nat) : (bytesV xs).length = xs.length := by simp [bytesV]
theorem bytesV_append (xs ys : List Nat) : bytesV (xs ++ ys) = bytesV xs ++ bytesV ys := by simp [bytesV]
theorem bytesV_one (xs : List Nat) : ∀ u ∈ bytesV xs, u.oneCell' = true := by
  intro u hu
  obtain ⟨x, _, rfl⟩ := List.mem_map.1 hu
  rfl
/-- A row of bytes of a call's own. -/
def Own (W : World) (base : Nat) (v : Value) (xs : List Nat) : Prop := W.ownsRow base 5 1 v xs.length (bytesV xs) ∧ ∀ x ∈ xs, x < 256
/-- New bytes that a call answers. -/
def RetO (base : Nat) (xs : List Nat) (w : World) (e : Ending) (w' : World) : Prop := ∃ v, e = .returned v ∧ Own w' base v xs ∧ Below base w w'

theorem ex_at {xs : List Nat} {k : Nat} (h : k < xs.length) : ∃ x, xs[k]? = some x := ⟨xs[k], List.getElem?_eq_getElem h⟩
theorem ret_int {k : IntKind} {a b : Int} (h : a = b) : Ending.returned (.int k a) = .returned (.int k b) := by rw [h]
theorem ret_bool {a b : Bool} (h : a = b) : Ending.returned (.bool a) = .returned (.bool b) := by rw [h]
theorem below_drewN {B : Nat} {a w : World} (h : Below B a w) (n : Nat) : Below B a (w.drewN n) := ⟨h.os, h.tape, h.output, h.size, h.block⟩
theorem heap_lt {W : World} {b : Nat} {o : Obj} (h : W.heap[b]? = some o) : b < W.heap.size := (Array.getElem?_eq_some_iff.1 h).1

theorem Own.nil (W : World) (base : Nat) : Own W base (.slice none 0 0) [] := ⟨World.ownsRow_nil W base _ 1, fun x h => by cases h⟩
theorem Own.bytes {W : World} {base : Nat} {v : Value} {xs : List Nat} (h : Own W base v xs) : BytesAt W v xs := by
  obtain ⟨⟨h1, h2⟩, h3⟩ := h
  rcases h2 with ⟨rfl, h0⟩ | ⟨g, cap, cur, rfl, hg, hh, hn, hc, hs, ht⟩
  · have : xs = [] := List.eq_nil_of_length_eq_zero h0
    subst this
    exact BytesAt.nil W
  · refine ⟨_, _, rfl, hn, by unfold maxLen at hc; omega, fun e => (by cases e), h3, fun _ => ⟨g, 0, rfl, heap_lt hh, fun j x hx => ?_⟩⟩
    rw [Nat.zero_add, cell_of_row W g j _ _ (0, 0) hh]
    have hj : j < xs.length := (List.getElem?_eq_some_iff.1 hx).1
    have : (cur.toList.take (xs.length * 1))[j]? = some (.int .u8 x) := by rw [ht]; simp [bytesV, hx]
    rw [List.getElem?_take, if_pos (by omega)] at this
    rw [← this]
    simp
theorem Own.base {W : World} {base : Nat} {v : Value} {xs : List Nat} (h : Own W base v xs) : ∀ k, v.ownBlock = some k → base ≤ k := by
  intro k hk
  rcases h.1.2 with ⟨h1, _⟩ | ⟨g, cap, cur, h1, h2, _⟩
  · subst h1; cases hk
  · subst h1; cases hk; exact h2
theorem below_grown {w w' : World} {row : Option Nat} {B : Nat} (hg : w.grownBy w' row) (hB : B ≤ w.heap.size) (hr : ∀ k, row = some k → B ≤ k) : Below B w w' := (Below.refl B w).grown hg hB hr
theorem Own.alloc {W : World} {base : Nat} {v : Value} {xs : List Nat} (h : Own W base v xs) (o : Obj) : Own (W.alloc o) base v xs := ⟨h.1.alloc o, h.2⟩
theorem Own.weaken {W : World} {base base' : Nat} {v : Value} {xs : List Nat} (h : Own W base v xs) (hb : base' ≤ base) : Own W base' v xs := by
  refine ⟨⟨h.1.1, ?_⟩, h.2⟩
  rcases h.1.2 with h1 | ⟨g, cap, cur, h1, h2, r⟩
  · exact .inl h1
  · exact .inr ⟨g, cap, cur, h1, by omega, r⟩
/-- What is made or written above the row leaves it. -/
theorem Own.keep {W W' : World} {base : Nat} {v : Value} {xs : List Nat} (h : Own W base v xs) (hb : Below W.heap.size W W') : Own W' base v xs := by
  refine ⟨⟨h.1.1, ?_⟩, h.2⟩
  rcases h.1.2 with h1 | ⟨g, cap, cur, h1, h2, h3, r⟩
  · exact .inl h1
  · exact .inr ⟨g, cap, cur, h1, h2, (hb.block g (heap_lt h3)).trans h3, r⟩

/-- A literal of bytes. -/
theorem lit_own (W : World) (xs : List Nat) (h : ∀ x ∈ xs, x < 256) (hl : xs.length ≤ 100000) (base : Nat) (hb : base ≤ W.heap.size) : Own (W.alloc (.cells (bytesV xs).toArray 5)) base (.slice (some ⟨W.heap.size, 0, none⟩) xs.length xs.length) xs := by
  have := World.ownsRow_lit (base := base) (e := 5) (size := 1) W (bytesV xs).toArray xs.length hb (by unfold maxLen; omega) (by simp [bytesV_length])
  exact ⟨by simpa using this, h⟩

/-- Bytes are appended to a row of the call's own, whatever the address of what is appended. -/
theorem wpList_append_bytes {P : Program} {w : World} {ops : Array Oper} {rest : List Oper} {o : Oper} {a : Act} {Q : Exit → Act → World → Prop} (hgd : o.guard = none) (s x : Operand) (t : TypeId)
    (ho : o.op = .call { callee := .builtin .append, args := #[s, x], argTypes := #[t, t] })
    (base : Nat) (ht : P.underlying t = some (.slice 5)) (hi0 : (P.info? 5).map (fun i => (i.zero, i.size, i.bytes)) = some (some (.int .u8 0), 1, 1))
    (v : Value) (xs : List Nat) (hs : a.eval s = v) (hown : Own w base v xs) (u : Value) (ys : List Nat) (hx : a.eval x = u) (hu : BytesAt w u ys)
    (hl : xs.length + ys.length ≤ 1000000) (hb : base ≤ w.heap.size)
    (h : ∀ v' w', Own w' base v' (xs ++ ys) → Below base w w' → wpList P ops Q rest (a.put o.dst v') w') : wpList P ops Q (o :: rest) a w := by
  obtain ⟨i, hi, hz0, hz1, hz2⟩ := info_parts hi0
  obtain ⟨A, c, rfl, u1, u2, u3, u4, u5⟩ := hu
  have hall : ∀ z ∈ xs ++ ys, z < 256 := fun z hz => by
    rcases List.mem_append.1 hz with h | h
    · exact hown.2 z h
    · exact u4 z h
  rcases A with _ | ⟨b, off, sp⟩
  · have : ys = [] := by
      rcases Nat.eq_zero_or_pos ys.length with h | h
      · exact List.eq_nil_of_length_eq_zero h
      · obtain ⟨b, off, e, _⟩ := u5 h; cases e
    subst this
    refine wpList_plain hgd fun K hK => ?_
    have hrun : (Builtin.append_ #[t, t] o.type #[v, .slice none 0 c]).run P w = .ok v w := by
      rcases hown.1.2 with ⟨rfl, h0⟩ | ⟨g, cap, cur, rfl, _, _, hnc, _⟩
      · simp [Builtin.append_, run_underlying ht, sizeOf, typeInfo, hi, Builtin.lenOf, Builtin.firstCells]
      · simp [Builtin.append_, run_underlying ht, sizeOf, typeInfo, hi, Builtin.lenOf, Builtin.firstCells, hnc, storeCells]
    unfold Oper.wp
    simp only [List.length_nil] at hx
    simp [execOp, ho, resolve, invoke, builtin, hs, hx, hrun, Result.andThen]
    exact hK _ _ (h v w (by simpa using hown) (Below.refl _ _))
  · have hc : ∀ j z, (bytesV ys)[j]? = some z → w.cell? ((⟨b, off, sp⟩ : Addr).add j) = some z := by
      intro j z hj
      have hj' : j < ys.length := by
        have := (List.getElem?_eq_some_iff.1 hj).1
        rwa [bytesV_length] at this
      obtain ⟨b', off', e, hlt, hcell⟩ := u5 (by omega)
      cases e
      rw [Addr.add_lit]
      obtain ⟨y, hy⟩ := ex_at hj'
      have : (bytesV ys)[j]? = some (.int .u8 y) := by simp [bytesV, hy]
      rw [this] at hj
      cases hj
      exact hcell j y hy
    refine wpList_append_own w hgd s x t ho base 5 i (.int .u8 0) 1 1 ht hi hz0 hz1 hz2 rfl (by decide) v xs.length (bytesV xs) hs hown.1 ⟨b, off, sp⟩ ys.length c (bytesV ys) hx (by simp [bytesV_length]) hc (bytesV_one ys)
      (by unfold maxLen; omega) (by omega) hb ?_
    intro v' w' h1 h2 _
    exact h v' w' ⟨by rw [List.length_append, bytesV_append]; exact h1, hall⟩ (below_grown h2 hb hown.base)

/-- The text of bytes. -/
def textOf (xs : List Nat) : ByteArray := strOfNums (xs.map fun n : Nat => (n : Int))
theorem textOf_inj {xs ys : List Nat} (hx : ∀ x ∈ xs, x < 256) (hy : ∀ y ∈ ys, y < 256) (h : textOf xs = textOf ys) : xs = ys := by
  have e : (textOf xs).data.toList = (textOf ys).data.toList := by rw [h]
  unfold textOf at e
  rw [strOfNums_data, strOfNums_data, List.map_map, List.map_map] at e
  have key : ∀ (l : List Nat), (∀ x ∈ l, x < 256) → (l.map ((fun n : Int => UInt8.ofNat n.toNat) ∘ fun n : Nat => (n : Int))).map UInt8.toNat = l := by
    intro l hl
    rw [List.map_map]
    conv => rhs; rw [← List.map_id l]
    apply List.map_congr_left
    intro x hxl
    have := hl x hxl
    simp
    omega
  rw [← key xs hx, ← key ys hy, e]
/-- A slice of bytes as a text. -/
theorem conv_text {P : Program} {w : World} {v : Value} {xs : List Nat} (h : BytesAt w v xs) {src dst : TypeId} (hs : P.underlying src = some (.slice 5)) (he : P.underlying 5 = some (.int .u8)) (hd : P.underlying dst = some .string) :
    (convert src dst v).run P w = .ok (.string (textOf xs)) w := by
  obtain ⟨A, c, rfl, u1, u2, u3, u4, u5⟩ := h
  rcases A with _ | ⟨b, off, sp⟩
  · have : xs = [] := by
      rcases Nat.eq_zero_or_pos xs.length with h | h
      · exact List.eq_nil_of_length_eq_zero h
      · obtain ⟨b, off, e, _⟩ := u5 h; cases e
    subst this
    exact run_convert_bytes_nil w src _ hs he 0 c dst hd
  · rcases Nat.eq_zero_or_pos xs.length with h | h
    · have : xs = [] := List.eq_nil_of_length_eq_zero h
      subst this
      rw [run_convert_bytes_string w src dst _ _ _ c hs he hd]
      simp [Conv.bytesToString, loadCells, loadCellsFrom]
      rfl
    · obtain ⟨b', off', e, hlt, hcell⟩ := u5 h
      cases e
      refine run_convert_bytes_arg w src _ hs he b off _ c (xs.map fun n : Nat => (n : Int)) (by simp) (fun i hi => ?_) dst hd
      obtain ⟨x, hx⟩ := ex_at hi
      rw [hcell i x hx]
      simp [List.getD, hx]
end Go.Proofs.Ytaffcpjhaacadaa
