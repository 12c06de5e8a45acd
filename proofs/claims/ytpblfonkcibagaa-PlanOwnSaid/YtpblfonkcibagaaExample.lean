/-
  The page's plan.
  Conditions: none.
-/
import Derived.Test.YtpblfonkcibagaaFindP
import Derived.Test.YtpblfonkcibagaaLoads
set_option linter.unusedVariables false
namespace Go.Proofs.Ytpblfonkcibagaa
open Go.RowKit

def exPs : List Pc := [⟨0, 1⟩, ⟨1, 6⟩]
def exL : List Pl := [⟨1, 3, 0, []⟩, ⟨2, 3, 0, exPs⟩]
theorem exL_light : LightL exL := by
  refine ⟨by decide, fun x hx => ?_⟩
  simp only [exL, List.mem_cons, List.not_mem_nil, or_false] at hx
  rcases hx with rfl | rfl
  · refine ⟨⟨⟨by decide, by decide⟩, ⟨by decide, by decide⟩, ⟨by decide, by decide⟩, fun y hy => by cases hy⟩, by decide⟩
  · refine ⟨⟨⟨by decide, by decide⟩, ⟨by decide, by decide⟩, ⟨by decide, by decide⟩, fun y hy => ?_⟩, by decide⟩
    simp only [exPs, List.mem_cons, List.not_mem_nil, or_false] at hy
    rcases hy with rfl | rfl <;> exact ⟨⟨by decide, by decide⟩, by decide⟩
theorem exL_shares : Shares exL := by
  intro x hx
  simp only [exL, List.mem_cons, List.not_mem_nil, or_false] at hx
  rcases hx with rfl | rfl <;> exact ⟨by decide, by decide⟩
theorem exL_right : Right 4 3 exL where
  f2 := by decide
  f64 := by decide
  m0 := by decide
  m16 := by decide
  place := by
    intro x hx
    simp only [exL, List.mem_cons, List.not_mem_nil, or_false] at hx
    rcases hx with rfl | rfl
    · exact ⟨by decide +kernel, by decide, by decide, fun _ => by decide +kernel, fun h => absurd rfl h⟩
    · refine ⟨by decide +kernel, by decide, by decide, fun h => (by cases h), fun _ => ⟨rfl, by decide, ⟨by decide +kernel, by decide, by decide, by decide +kernel, by decide, by decide, trivial⟩, ?_, by decide +kernel⟩⟩
      show ∀ t, t < 64 → nAny exPs t ≤ 1 ∧ (0 < nAny exPs t → (t : Int) < 4)
      decide +kernel
  asc := by
    intro i x y hx hy
    have h : i + 1 < exL.length := (List.getElem?_eq_some_iff.1 hy).1
    have h0 : i = 0 := by simp [exL] at h; omega
    subst h0
    simp [exL] at hx hy
    subst hx
    subst hy
    decide
  apart := by decide +kernel
  few := by decide +kernel
  load := by decide +kernel
theorem exL_room0 : roomN 4 3 exL 0 = 0 := by decide +kernel
theorem exL_room1 : roomN 4 3 exL 1 = 2 := by decide +kernel
theorem exL_free : freeT 4 3 exL 16 = 2 := by decide +kernel
theorem exL_splits : splitsN exL = 1 := by decide +kernel
theorem exL_win : winN (pcsOf exL) 1 = 6 := by decide +kernel
theorem exL_has : hasC 3 1 = true := by decide +kernel
theorem no_zero : ¬ Right 0 0 [] := fun h => by have := h.f2; omega

/-- What a call answers: this plan, its places in blocks of F. -/
def RetPn (F : Nat → Prop) (f : Int) (m : Nat) (l : List Pl) (w : World) (e : Ending) (w' : World) : Prop := ∃ v, e = .returned (planA f m v) ∧ PlsIn F w' v l ∧ Below w.heap.size w w'
theorem below_row {B g : Nat} {a w : World} (h : Below B a w) (hg : B ≤ g) (cs : Array Value) : Below B a (w.setRow g cs) := below_row16 h hg cs
theorem PlsIn.setRow {F : Nat → Prop} {W : World} {v : Value} {l : List Pl} (h : PlsIn F W v l) {N : Nat} {cs : Array Value} (hn : ¬ F N ∨ W.heap.size ≤ N) : PlsIn F (W.setRow N cs) v l :=
  h.keepF (by simp) fun b hb hF => setRow_other _ _ _ _ (by
    intro e
    subst e
    rcases hn with hn | hn
    · exact hn hF
    · omega)
theorem one3 (f : Int) (m : Nat) (A : Option Addr) (n d : Nat) : (#[.int .i64 f, .int .u32 m, .slice A n d] : Array Value).all (·.oneCell') = true := by simp [Value.oneCell']

/-- The page's places, as its cells lie. -/
theorem ex_pls {W : World} {Q R : Nat} (hQ : W.heap[Q]? = some (.cells #[.int .i64 0, .int .u64 1, .int .i64 1, .int .u64 6] 54 (0, 0)))
    (hR : W.heap[R]? = some (.cells #[.int .i64 1, .int .i64 3, .int .i64 0, .slice none 0 0, .int .i64 2, .int .i64 3, .int .i64 0, .slice (some ⟨Q, 0, none⟩) 2 2] 33 (0, 0))) (F : Nat → Prop) (hFQ : F Q) (hFR : F R) :
    PlsIn F W (.slice (some ⟨R, 0, none⟩) 2 2) exL := by
  have lQ := heap_lt hQ
  have lR := heap_lt hR
  have hps : PcsIn F W (.slice (some ⟨Q, 0, none⟩) 2 2) exPs := by
    refine ⟨_, 2, rfl, by decide, by decide, fun _ => ⟨Q, 0, rfl, lQ, hFQ, fun j y hy => ?_⟩⟩
    have h : j < exPs.length := (List.getElem?_eq_some_iff.1 hy).1
    have hj : j = 0 ∨ j = 1 := by simp [exPs] at h; omega
    rcases hj with rfl | rfl
    · cases hy
      exact ⟨by simp [World.cell?, hQ], by simp [World.cell?, hQ]⟩
    · cases hy
      exact ⟨by simp [World.cell?, hQ], by simp [World.cell?, hQ]⟩
  refine ⟨[(.slice none 0 0, ⟨1, 3, 0, []⟩), (.slice (some ⟨Q, 0, none⟩) 2 2, ⟨2, 3, 0, exPs⟩)], rfl, _, 2, rfl, Nat.le_refl 2, by decide, fun _ => ⟨R, 0, rfl, lR, hFR, fun j p hp => ?_⟩, fun p hp => ?_⟩
  · have h := (List.getElem?_eq_some_iff.1 hp).1
    have hj : j = 0 ∨ j = 1 := by simp at h; omega
    rcases hj with rfl | rfl
    · cases hp
      exact ⟨by simp [World.cell?, hR], by simp [World.cell?, hR], by simp [World.cell?, hR], by simp [World.cell?, hR]⟩
    · cases hp
      exact ⟨by simp [World.cell?, hR], by simp [World.cell?, hR], by simp [World.cell?, hR], by simp [World.cell?, hR]⟩
  · simp only [List.mem_cons, List.not_mem_nil, or_false] at hp
    rcases hp with rfl | rfl
    · exact PcsIn.nil _ _
    · exact hps

set_option maxRecDepth 100000 in
set_option maxHeartbeats 2000000 in
theorem example_any (w : World) : Calls Try.prog 37 #[] w (RetPn (fun b => w.heap.size ≤ b) 4 3 exL w) := by
  obtain ⟨w1, P, hw1, hP, hPl, hb1, hpb⟩ := box_any w #[.int .i64 0, .int .u32 0, .slice none 0 0] 25
  obtain ⟨w2, Q, hw2, hQ, hQl, hb2, hqb⟩ := box_any w1 #[.int .i64 0, .int .u64 1, .int .i64 1, .int .u64 6] 54
  obtain ⟨w3, R, hw3, hR, hRl, hb3, hrb⟩ := box_any w2 #[.int .i64 1, .int .i64 3, .int .i64 0, .slice none 0 0, .int .i64 2, .int .i64 3, .int .i64 0, .slice (some ⟨Q, 0, none⟩) 2 2] 33
  have HB2 := Lib.hid (hb1.trans (hb2.mono hb1.size))
  have HB3 := Lib.hid (HB2.out.trans (hb3.mono HB2.out.size))
  have HPB := Lib.hid (keep_block (keep_block hpb hb2) hb3)
  have HLT := Lib.hid (show w.heap.size ≤ P ∧ P < Q ∧ Q < R by have := hb1.size; omega)
  have HPL := Lib.hid (ex_pls (keep_block hqb hb3) hrb (fun b => w.heap.size ≤ b ∧ b ≠ P) ⟨by omega, by omega⟩ ⟨by omega, by omega⟩)
  clear hb1 hb2 hb3 hpb hqb hrb
  go_enter Try.func37, Try.ntmps37
  go_wp2_with (refine wpList_store_row rfl _ _ _ rfl P #[.int .i64 4, .int .u32 3, .slice (some ⟨R, 0, none⟩) 2 2] rfl rfl 25 _ HPB.out (Try.sizePn _ _ _) rfl (one3 _ _ _ _ _) ?_)
  refine bodyPost_ret (v := planA 4 3 (.slice (some ⟨R, 0, none⟩) 2 2)) (results_cell_row rfl _ _ P _ _ _ _ rfl (setRow_heap _ _ _ _ _ _ HPB.out) Try.underlying25 rfl (Try.sizePn _ _ _)) rfl ?_
  exact ⟨_, rfl, (PlsIn.setRow HPL.out (.inl fun h => h.2 rfl)).mono fun b _ h => h.1, below_row HB3.out HLT.out.1 _⟩
end Go.Proofs.Ytpblfonkcibagaa
