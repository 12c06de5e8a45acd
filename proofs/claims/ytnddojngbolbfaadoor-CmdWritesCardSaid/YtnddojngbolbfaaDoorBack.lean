/-
  slices.Backward over a slice of links: its closure hands every loop body that keeps what lay before all links with their places, the last first.
  Conditions: at most 1048576 links.
-/
import Derived.RangeFuncNested
import Derived.RangeFuncBound
import Derived.RangeFuncCalls
import Derived.RangeFuncLeaves
import Derived.Shelf.Abstract
import Derived.Shelf.RegionOpen
import Derived.WalkKit
import Derived.OwnWalkIn
import Derived.TacticsInMore
import Derived.LoopNIn
import Derived.LoopIn
import Derived.Test.YtnddojngbolbfaaDoorLinks
namespace Go.Proofs.YtnddojngbolbfaaDoor
open Go.RowKit Go.Shelf

attribute [local go_sem] Oper.semAt_some

/-- What has come when 'k' are still to come. -/
def backPre (is : List Item) (k : Nat) : List (Nat × Item) := (is.zipIdx.map (fun p => (p.2, p.1))).reverse.take (is.length - k)

theorem backPre_start (is : List Item) : backPre is is.length = [] := by simp [backPre]
theorem backPre_all (is : List Item) : backPre is 0 = (is.zipIdx.map (fun p => (p.2, p.1))).reverse := by
  unfold backPre
  apply List.take_of_length_le
  simp
theorem backPre_length (is : List Item) (k : Nat) : (backPre is k).length = is.length - k := by
  simp [backPre]
theorem backPre_step (is : List Item) (k : Nat) (hk : k < is.length) : backPre is k = backPre is (k + 1) ++ [(k, is[k])] := by
  unfold backPre
  have h1 : is.length - k = (is.length - (k + 1)) + 1 := by omega
  rw [h1, List.take_succ_eq_append_getElem (by simp; omega)]
  congr 1
  have h2 : is.length - 1 - (is.length - (k + 1)) = k := by omega
  simp [List.getElem_reverse, h2]

def encLink (x : Nat × Item) : Array Value := #[.int .i64 (x.1 : Int), .agg #[.int .i64 x.2.code, .string x.2.part, .int .i64 x.2.pos]]

/-- A slice of links lies in a block of its own, or is nil. -/
def LinksAt (n₀ : Nat) (W : World) (sv : Value) (is : List Item) : Prop :=
  (sv = .slice none 0 0 ∧ is = []) ∨ ∃ g cap, sv = .slice (some ⟨g, 0, none⟩) is.length cap ∧ g < n₀ ∧
    ∀ j (h : j < is.length), W.cell? ⟨g, j * 3, none⟩ = some (.int .i64 (is[j]'h).code) ∧ W.cell? ⟨g, j * 3 + 1, none⟩ = some (.string (is[j]'h).part) ∧ W.cell? ⟨g, j * 3 + 2, none⟩ = some (.int .i64 (is[j]'h).pos)

theorem LinksAt.kept {n₀ : Nat} {A B : World} {sv : Value} {is : List Item} (h : LinksAt n₀ A sv is) (hb : Below n₀ A B) : LinksAt n₀ B sv is := by
  rcases h with h | ⟨g, cap, e, hg, hc⟩
  · exact .inl h
  · refine .inr ⟨g, cap, e, hg, fun j hj => ?_⟩
    obtain ⟨a, b, c⟩ := hc j hj
    exact ⟨(hb.cell (p := ⟨g, _, none⟩) hg).trans a, (hb.cell (p := ⟨g, _, none⟩) hg).trans b, (hb.cell (p := ⟨g, _, none⟩) hg).trans c⟩

/-- What a round must keep: all that lay below n₀, and the slice's own box. -/
def KeepB (n₀ Bs : Nat) (A B : World) : Prop := Below n₀ A B ∧ B.heap[Bs]? = A.heap[Bs]?
theorem KeepB.refl (n₀ Bs : Nat) (A : World) : KeepB n₀ Bs A A := ⟨Below.refl _ _, rfl⟩
theorem KeepB.trans {n₀ Bs : Nat} {A B C : World} (h : KeepB n₀ Bs A B) (k : KeepB n₀ Bs B C) : KeepB n₀ Bs A C := ⟨h.1.trans k.1, k.2.trans h.2⟩
theorem KeepB.box {n₀ Bs : Nat} {A B : World} (h : KeepB n₀ Bs A B) : B.cell? ⟨Bs, 0, none⟩ = A.cell? ⟨Bs, 0, none⟩ := World.cell?_of_block (w := A) h.2

set_option maxRecDepth 100000 in
set_option maxHeartbeats 2000000 in
theorem back1_in (F : Fence) (n : Nat) (h7 : F.fn 69) (hro : F.round = none) (hn : 1 ≤ n) (l Bs n₀ : Nat) (sv : Value) (is : List Item) (hlen : is.length ≤ 1048576) (J Jx : List (Nat × Item) → World → Prop)
    (hY : ∀ pre x W, J pre W → pre.length < is.length → YieldAt F (n - 1) Tryd.prog l (encLink x) W fun e W' =>
      (e = .returned (.bool true) ∧ J (pre ++ [x]) W' ∧ KeepB n₀ Bs W W') ∨ (e = .returned (.bool false) ∧ Jx (pre ++ [x]) W'))
    (W : World) (hBs : W.cell? ⟨Bs, 0, none⟩ = some sv) (hS : LinksAt n₀ W sv is) (h0 : J [] W) :
    CallsIn F n Tryd.prog 69 #[.func (.yield l) #[] #[], .pointer (some ⟨Bs, 0, none⟩)] W fun e W' => (∃ v, e = .returned v) ∧
      ((∃ ys, ys = backPre is 0 ∧ J ys W') ∨ (∃ pre, (∃ k, k ≤ is.length ∧ pre = backPre is k) ∧ Jx pre W')) := by
  rcases hS with ⟨rfl, rfl⟩ | ⟨g, cap, rfl, hg, hc⟩
  · refine callsIn_of_wp Tryd.func69 rfl h7 ?_ hro
    simp only [Tryd.ntmps69, List.size_toArray, List.length_cons, List.length_nil, Nat.reduceAdd, Nat.reduceSub, Array.replicate_succ, Array.replicate_zero, List.push_toArray, List.append_toArray, List.nil_append, List.cons_append]
    gi_wp2
    gi_loopw [3] (fun i wr => i = .int .i64 (-1) ∧ J [] wr) (fun _ _ => 0)
    case atStart => exact ⟨rfl, h0⟩
    case round =>
      obtain ⟨rfl, hJs⟩ := hrel
      gi_wp2
      go_end0
      exact ⟨⟨_, rfl⟩, .inl ⟨_, rfl, hJs⟩⟩
  · have hlen' := hlen
    refine callsIn_of_wp Tryd.func69 rfl h7 ?_ hro
    simp only [Tryd.ntmps69, List.size_toArray, List.length_cons, List.length_nil, Nat.reduceAdd, Nat.reduceSub, Array.replicate_succ, Array.replicate_zero, List.push_toArray, List.append_toArray, List.nil_append, List.cons_append]
    gi_wp2
    gi_loopw [3] (fun i wr => ∃ k : Nat, k ≤ is.length ∧ i = .int .i64 ((k : Int) - 1) ∧ J (backPre is k) wr ∧ KeepB n₀ Bs W wr)
      (fun i _ => (intOf i + 1).toNat)
    case atStart => exact ⟨is.length, Nat.le_refl _, rfl, by rw [backPre_start]; exact h0, KeepB.refl _ _ _⟩
    case round =>
      obtain ⟨k, hk, rfl, hJs, hnx⟩ := hrel
      have hbx : wr.cell? ⟨Bs, 0, none⟩ = some (.slice (some ⟨g, 0, none⟩) is.length cap) := hnx.box.trans hBs
      cases k with
      | zero =>
        have e0 : (((0 : Nat) : Int) - 1) = -1 := rfl
        rw [e0]
        clear e0
        gi_wp2
        go_end0
        exact ⟨⟨_, rfl⟩, .inl ⟨_, rfl, hJs⟩⟩
      | succ m =>
        have e0 : (((m + 1 : Nat) : Int) - 1) = (m : Int) := by omega
        rw [e0]
        clear e0
        have hm : m < is.length := by omega
        obtain ⟨q0, q1, q2⟩ := hc m hm
        have p0 := (hnx.1.cell (p := ⟨g, m * 3, none⟩) hg).trans q0
        have p1 := (hnx.1.cell (p := ⟨g, m * 3 + 1, none⟩) hg).trans q1
        have p2 := (hnx.1.cell (p := ⟨g, m * 3 + 2, none⟩) hg).trans q2
        obtain ⟨fn, tmps, assign, body, hy, hR⟩ := hY _ (m, is[m]) wr hJs (by rw [backPre_length]; omega)
        dsimp only [encLink] at hy
        obtain ⟨c, hcc⟩ : ∃ c, c = is[m].code := ⟨_, rfl⟩
        obtain ⟨pt, hpt⟩ : ∃ c, c = is[m].part := ⟨_, rfl⟩
        obtain ⟨ps, hps⟩ : ∃ c, c = is[m].pos := ⟨_, rfl⟩
        rw [← hcc] at p0 hy
        rw [← hpt] at p1 hy
        rw [← hps] at p2 hy
        clear hcc hpt hps q0 q1 q2
        have HS := Lib.hid (backPre_step is m hm)
        have HNX := Lib.hid hnx
        clear hnx
        gi_wp2
        refine hR.mono ?_
        rintro e W3 (⟨rfl, hJ3, hk3⟩ | ⟨rfl, hJx3⟩)
        · gi_wp2
          go_roundw
          case rel => exact ⟨m, by omega, by go_num, by rw [HS.out]; exact hJ3, HNX.out.trans hk3⟩
          case measure => simp [intOf]
        · gi_wp2
          refine bodyPost_ret (results_none rfl _ _ _) rfl ?_
          exact ⟨⟨_, rfl⟩, .inr ⟨_, ⟨m, by omega, HS.out.symm⟩, hJx3⟩⟩

theorem backPre_prefix (is : List Item) (k : Nat) : backPre is k <+: backPre is 0 := by
  rw [backPre_all]; exact List.take_prefix _ _

/-- slices.Backward's closure is an iterator that hands out all links from the last on. -/
theorem back_stops (F : Fence) (n : Nat) (h7 : F.fn 69) (hro : F.round = none) (hn : 1 ≤ n) (Bs n₀ : Nat) (sv : Value) (is : List Item) (hlen : is.length ≤ 1048576) (w : World) (hBs : Bs < w.heap.size) (hn₀ : n₀ ≤ w.heap.size)
    (hc : w.cell? ⟨Bs, 0, none⟩ = some sv) (hI : LinksAt n₀ w sv is) :
    SeqStopsK F n Tryd.prog 69 #[.pointer (some ⟨Bs, 0, none⟩)] encLink (KeepB n₀ Bs) (fun ys => ys = backPre is 0) (fun pre => pre <+: backPre is 0) is.length w := fun l J Jx W hW _ _ hY h0 => by
  have hc' := (hW.cell (p := ⟨Bs, 0, none⟩) (by show Bs < _; exact hBs)).trans hc
  refine (back1_in F n h7 hro hn l Bs n₀ sv is hlen J Jx hY W hc' (hI.kept (hW.mono hn₀)) h0).mono ?_
  rintro e W' ⟨he, ⟨ys, rfl, hj⟩ | ⟨pre, ⟨k, hk, rfl⟩, hj⟩⟩
  · exact ⟨he, .inl ⟨_, rfl, hj⟩⟩
  · exact ⟨he, .inr ⟨_, backPre_prefix is k, hj⟩⟩

set_option maxHeartbeats 1000000 in
theorem back_in (F : Fence) (n : Nat) (h5 : F.fn 61) (hro : F.round = none) (a : Option Addr) (len cap : Nat) (w : World) :
    CallsIn F n Tryd.prog 61 #[.slice a len cap] w fun e w' => e = .returned (.func (.func 69) #[] #[.pointer (some ⟨w.heap.size, 0, none⟩)]) ∧ w' = w.alloc (.cells #[.slice a len cap] 48) := by
  refine callsIn_of_wp Tryd.func61 rfl h5 ?_ hro
  simp only [Tryd.ntmps61, List.size_toArray, List.length_cons, List.length_nil, Nat.reduceAdd, Nat.reduceSub, Array.replicate_succ, Array.replicate_zero, List.push_toArray, List.append_toArray, List.nil_append, List.cons_append]
  gi_wp2
  go_ret
  exact ⟨rfl, rfl⟩
end Go.Proofs.YtnddojngbolbfaaDoor
