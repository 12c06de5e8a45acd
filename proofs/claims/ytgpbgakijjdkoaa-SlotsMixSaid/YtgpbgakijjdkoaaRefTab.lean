/-
  The document's table in memory; New, Has, Gen, which of the document.
  Conditions: where the table lies; its clock is small.
-/
import Derived.Test.YtgpbgakijjdkoaaIds
set_option linter.unusedVariables false
namespace Go.Proofs.Ytgpbgakijjdkoaa
open Go.RowKit TI

theorem Try.infoRef : (Try.prog.info? 47).map (fun i => (i.zero, i.size, i.bytes)) = some (some (.agg #[.int .i64 0, .bool false, .int .i64 0, .int .i64 0]), 4, 32) := by kernel_rfl

/-- The document's slots. -/
structure RefAt (W : World) (b : Nat) (r : Rs) : Prop where
  lt : b < W.heap.size
  at_ : ∀ i, i < r.n → W.cell? ⟨b, i * 4, none⟩ = some (.int .i64 (r.X i)) ∧ W.cell? ⟨b, i * 4 + 1, none⟩ = some (.bool (r.tk i)) ∧ W.cell? ⟨b, i * 4 + 2, none⟩ = some (.int .i64 (r.fd i)) ∧ W.cell? ⟨b, i * 4 + 3, none⟩ = some (.int .i64 (r.wh i))
def refV (b c : Nat) (r : Rs) : Value := .agg #[.slice (some ⟨b, 0, none⟩) r.n c, .int .i64 r.clk]
theorem RefAt.keep {W W' : World} {b : Nat} {r : Rs} (h : RefAt W b r) (hs : W.heap.size ≤ W'.heap.size) (hb : W'.heap[b]? = W.heap[b]?) : RefAt W' b r :=
  ⟨Nat.lt_of_lt_of_le h.lt hs, fun i hi => by
    obtain ⟨c0, c1, c2, c3⟩ := h.at_ i hi
    exact ⟨(cell_of_same hb _).trans c0, (cell_of_same hb _).trans c1, (cell_of_same hb _).trans c2, (cell_of_same hb _).trans c3⟩⟩
theorem RefAt.below {W W' : World} {b : Nat} {r : Rs} (h : RefAt W b r) (hb : Below W.heap.size W W') : RefAt W' b r := h.keep hb.size (hb.block b h.lt)
/-- Numbers that are small, in a table of right size. -/
structure Few (r : Rs) : Prop where
  n0 : 0 < r.n
  n1 : r.n ≤ 1024
  clk : r.clk ≤ 10000
  fd : ∀ i, i < r.n → r.fd i ≤ 10000
  wh : ∀ i, i < r.n → r.wh i ≤ 10000

/-- What a call answers that makes a table anew. -/
def RetR (r : Rs) (f : Value → Value) (w : World) (e : Ending) (w' : World) : Prop :=
  ∃ b c, e = .returned (f (refV b c r)) ∧ r.n ≤ c ∧ RefAt w' b r ∧ w.heap.size ≤ b ∧ Below w.heap.size w w'

def slot0 : Array Value := #[.int .i64 0, .bool false, .int .i64 0, .int .i64 0]
theorem mk_slots (W : World) (n : Nat) (h : n ≤ 1024) : (Instr.makeSlice 28 (.int .i64 (n : Int)) (.int .i64 (n : Int))).run Try.prog W = .ok (.slice (some ⟨W.heap.size, 0, none⟩) n n) (W.alloc (.cells (madeCells slot0 (n * 4)) 47)) := by
  obtain ⟨i, hi, e⟩ := Option.map_eq_some_iff.1 Try.infoRef
  simp only [Prod.mk.injEq] at e
  obtain ⟨e1, e2, e3⟩ := e
  have hr := run_make (P := Try.prog) W 28 47 i (.agg #[.int .i64 0, .bool false, .int .i64 0, .int .i64 0]) Try.underlying28 hi e1 .i64 .i64 n n (by omega) (Int.le_refl _) (by rw [e3]; omega) (by omega)
  rw [hr, e2]
  simp only [Int.toNat_natCast]
  rfl
theorem made_at (n i : Nat) (hi : i < n) : (madeCells slot0 (n * 4))[i * 4]? = some (.int .i64 0) ∧ (madeCells slot0 (n * 4))[i * 4 + 1]? = some (.bool false) ∧ (madeCells slot0 (n * 4))[i * 4 + 2]? = some (.int .i64 0) ∧ (madeCells slot0 (n * 4))[i * 4 + 3]? = some (.int .i64 0) := by
  have h : ∀ j, j < n * 4 → (madeCells slot0 (n * 4))[j]? = some (slot0[j % 4]!) := by
    intro j hj
    simp [madeCells, hj]
    rfl
  rw [h _ (by omega), h _ (by omega), h _ (by omega), h _ (by omega), Nat.mul_mod_left, show (i * 4 + 1) % 4 = 1 by omega, show (i * 4 + 2) % 4 = 2 by omega, show (i * 4 + 3) % 4 = 3 by omega]
  exact ⟨rfl, rfl, rfl, rfl⟩
theorem newR_few {n : Nat} (h0 : 0 < n) (h1 : n ≤ 1024) : Few (newR n) := ⟨h0, h1, Nat.zero_le _, fun i _ => Nat.zero_le _, fun i _ => Nat.zero_le _⟩

set_option maxRecDepth 100000 in
set_option maxHeartbeats 4000000 in
theorem refNew_any (W : World) (n : Nat) (h1 : n ≤ 1024) : Calls Try.prog 8 #[.int .i64 n] W (RetR (newR n) id W) := by
  have hmk := fun w => mk_slots w n h1
  go_enter Try.func8, Try.ntmps8
  go_wp2_with fail
  go_returns
  generalize hw1 : W.alloc (.cells #[.slice (some ⟨W.heap.size + 1, 0, none⟩) n n, .int .i64 0] 30) = w1
  have hs : w1.heap.size = W.heap.size + 1 := by rw [← hw1]; exact World.size_alloc _ _
  have hb : Below W.heap.size W w1 := by rw [← hw1]; exact (Below.refl _ _).alloc (Nat.le_refl _) _
  clear hw1
  refine ⟨W.heap.size + 1, n, rfl, Nat.le_refl _, ⟨by rw [World.size_alloc]; omega, fun i hi => ?_⟩, Nat.le_succ _, hb.alloc (by omega) _⟩
  obtain ⟨m0, m1, m2, m3⟩ := made_at n i hi
  rw [← hs]
  refine ⟨?_, ?_, ?_, ?_⟩ <;> (rw [World.cell?_alloc_new]; assumption)

theorem gen_any (W : World) (x : Int) (tk : Bool) (fd wh : Nat) (h : fd ≤ 10000) : Calls Try.prog 17 #[.agg #[.int .i64 x, .bool tk, .int .i64 fd, .int .i64 wh]] W (RetB (.int .i64 ((fd + 1 : Nat) : Int)) W) := by
  obtain ⟨q, hq⟩ : ∃ q, fd + 1 = q := ⟨_, rfl⟩
  rw [hq]
  have y1 : (fd : Int) + 1 = (q : Int) := by omega
  have y2 : wrap64 (q : Int) = (q : Int) := wrap64_nat (by omega)
  clear hq h
  go_enter Try.func17, Try.ntmps17
  go_wp2
  go_ret
  exact ⟨ret_int y2, (Below.refl _ _).alloc (Nat.le_refl _) _⟩

def hasR (r : Rs) (q : Int) : Bool := decide (1 ≤ q ∧ q ≤ (r.n : Int)) && r.tk (q.toNat - 1)
set_option maxRecDepth 100000 in
set_option maxHeartbeats 4000000 in
theorem hasR_any (W : World) (b c : Nat) (r : Rs) (q : Int) (h : RefAt W b r) (hn : r.n ≤ 1024) :
    Calls Try.prog 16 #[refV b c r, .int .i64 q] W (RetB (.bool (hasR r q)) W) := by
  unfold refV
  have HB := Lib.hid (show Below W.heap.size W (W.alloc (.cells #[.slice (some ⟨b, 0, none⟩) r.n c, .int .i64 r.clk] 30)) from (Below.refl _ _).alloc (Nat.le_refl _) _)
  have hR := h.below HB.out
  by_cases h0 : 1 ≤ q
  · by_cases h1 : q ≤ (r.n : Int)
    · obtain ⟨i, hi⟩ : ∃ i : Nat, q - 1 = (i : Int) := ⟨q.toNat - 1, by omega⟩
      have hin : i < r.n := by omega
      rw [show hasR r q = r.tk i by unfold hasR; rw [decide_eq_true ⟨h0, h1⟩, show q.toNat - 1 = i by omega]; rfl]
      obtain ⟨_, k1, _, _⟩ := hR.at_ i hin
      have z2 : (i : Int) < (r.n : Int) := Int.ofNat_lt.2 hin
      have z1 : wrap64 (i : Int) = (i : Int) := wrap64_nat (by omega)
      generalize r.tk i = u at *
      generalize r.n = n at *
      generalize r.clk = clk at *
      clear h hR hin
      go_enter Try.func16, Try.ntmps16
      go_wp2
      go_ret
      exact ⟨rfl, HB.out⟩
    · rw [show hasR r q = false by unfold hasR; rw [decide_eq_false (fun h => h1 h.2)]; rfl]
      have z1 : decide (q ≤ (r.n : Int)) = false := decide_eq_false h1
      generalize r.n = n at *
      generalize r.clk = clk at *
      clear h hR
      go_enter Try.func16, Try.ntmps16
      go_wp2
      go_ret
      exact ⟨rfl, HB.out⟩
  · rw [show hasR r q = false by unfold hasR; rw [decide_eq_false (fun h => h0 h.1)]; rfl]
    have z1 : decide (1 ≤ q) = false := decide_eq_false h0
    generalize r.n = n at *
    generalize r.clk = clk at *
    clear h hR
    go_enter Try.func16, Try.ntmps16
    go_wp2
    go_ret
    exact ⟨rfl, HB.out⟩
end Go.Proofs.Ytgpbgakijjdkoaa
