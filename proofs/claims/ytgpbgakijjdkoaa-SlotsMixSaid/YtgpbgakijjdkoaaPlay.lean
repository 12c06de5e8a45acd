/-
  The step of both tables, whatever the call; calls, as an argument.
  Conditions: both tables lie in memory, and agree.
-/
import Derived.Test.YtgpbgakijjdkoaaStepB
import Derived.Test.YtgpbgakijjdkoaaStepC
import Derived.Test.YtgpbgakijjdkoaaStepD
set_option linter.unusedVariables false
namespace Go.Proofs.Ytgpbgakijjdkoaa
open Go.RowKit TI

theorem step_any (B : Nat) (W0 W : World) (tb : Nat) (sv fv : Value) (s : Ts Int) (b c : Nat) (r : Rs) (kind id g x : Int) (st : Both B W0 W tb sv fv s b c r) (hk5 : r.clk ≤ 1000) :
    Calls Try.prog 9 #[.pointer (some ⟨tb, 0, none⟩), refV b c r, .agg #[.int .i64 kind, .int .i64 id, .int .i64 g, .int .i64 x]] W (StepPost B W0 W tb sv fv s.n r.clk) := by
  by_cases h01 : kind = 0 ∨ kind = 1
  · rcases take_play st.held.ok st.agr x with ⟨hw, ht⟩ | ⟨i, s1, hi, hw, ho1, hag, ht⟩
    · exact step_take_none B W0 W tb sv fv s b c r kind id g x st hk5 h01 hw ht
    · exact step_take_some B W0 W tb sv fv s b c r kind id g x st hk5 s1 i h01 hi hw ho1 hag (by rw [← hag.n, ← st.agr.n]; rfl) ht
  · by_cases h23 : kind = 2 ∨ kind = 3
    · by_cases hu : inU s id = true
      · by_cases hg : (s.gen (id.toNat - 1) : Int) = g
        · exact step_drop_yes B W0 W tb sv fv s b c r kind id g x st hk5 h23 hu hg
        · exact step_drop_no2 B W0 W tb sv fv s b c r kind id g x st hk5 h23 hu hg
      · exact step_drop_no1 B W0 W tb sv fv s b c r kind id g x st hk5 h23 (by simpa using hu)
    · by_cases h4 : kind = 4
      · by_cases hu : inU s id = true
        · exact step_set_yes B W0 W tb sv fv s b c r kind id g x st hk5 h4 hu
        · exact step_set_no B W0 W tb sv fv s b c r kind id g x st hk5 h4 (by simpa using hu)
      · exact step_other B W0 W tb sv fv s b c r kind id g x st hk5 (fun e => h01 (.inl e)) (fun e => h01 (.inr e)) (fun e => h23 (.inl e)) (fun e => h23 (.inr e)) h4

/-- A call, as an argument has it: kind, id, generation, thing. -/
abbrev ActH := Int × Int × Int × Int
def ActAt (W : World) (b o : Nat) (a : ActH) : Prop := W.cell? ⟨b, o, none⟩ = some (.int .i64 a.1) ∧ W.cell? ⟨b, o + 1, none⟩ = some (.int .i64 a.2.1) ∧ W.cell? ⟨b, o + 2, none⟩ = some (.int .i64 a.2.2.1) ∧ W.cell? ⟨b, o + 3, none⟩ = some (.int .i64 a.2.2.2)
def ActsAt (W : World) (v : Value) (l : List ActH) : Prop :=
  ∃ A c, v = .slice A l.length c ∧ l.length ≤ 9223372036854775807 ∧ (0 < l.length → ∃ b off, A = some ⟨b, off, none⟩ ∧ b < W.heap.size ∧ ∀ (j : Nat) (a : ActH), l[j]? = some a → ActAt W b (off + j * 4) a)
def ActOk (a : ActH) : Prop := True
theorem ActAt.keep {W W' : World} {B b o : Nat} {a : ActH} (h : ActAt W b o a) (hb : Below B W W') (hlt : b < B) : ActAt W' b o a :=
  ⟨(hb.cell (p := ⟨b, o, none⟩) hlt).trans h.1, (hb.cell (p := ⟨b, o + 1, none⟩) hlt).trans h.2.1, (hb.cell (p := ⟨b, o + 2, none⟩) hlt).trans h.2.2.1, (hb.cell (p := ⟨b, o + 3, none⟩) hlt).trans h.2.2.2⟩

section
variable {P : Program} {ops : Array Oper} {Q : Exit → Act → World → Prop} {md : Region.Mode} {S1 S2 : World → Prop} {N : Nat → Bool}
/-- Two may come up. -/
theorem wpAnyN_two {i j : Nat} {oi oj : Oper} {fuel : Nat} {listed : Array Bool} {a : Act} {w : World} (hr : Region.ready md ops listed = [i, j]) (hi : ops[i]? = some oi) (hj : ops[j]? = some oj)
    (wi : Region.wanted oi (yielded ops a.tmps) = true) (wj : Region.wanted oj (yielded ops a.tmps) = true)
    (h1 : ∀ K' : Act → World → Prop, Shut (∀ a w', S1 w' → (N i = true → S2 w → S2 w') → wpAnyN P md ops Q S1 S2 N fuel (listed.setIfInBounds i true) a w' → K' a w') → Oper.wp P oi a w K' Q)
    (h2 : ∀ K' : Act → World → Prop, Shut (∀ a w', S1 w' → (N j = true → S2 w → S2 w') → wpAnyN P md ops Q S1 S2 N fuel (listed.setIfInBounds j true) a w' → K' a w') → Oper.wp P oj a w K' Q) :
    wpAnyN P md ops Q S1 S2 N (fuel + 1) listed a w :=
  ⟨fun h0 => absurd (hr.symm.trans h0) (by intro e; cases e), fun k hk => by
    rw [hr] at hk
    rcases List.mem_cons.1 hk with rfl | hk
    · exact wpOp_step hi (fun K' hK => by
        rw [if_pos wi]
        exact h1 K' (fun a w h1 h2 hW => hK a w ⟨⟨h1, h2⟩, hW⟩))
    · obtain rfl := List.mem_singleton.1 hk
      exact wpOp_step hj (fun K' hK => by
        rw [if_pos wj]
        exact h2 K' (fun a w h1 h2 hW => hK a w ⟨⟨h1, h2⟩, hW⟩))⟩
end

/-- A variable that holds the document's table. -/
def TVar (w : World) (vb b c : Nat) (r : Rs) : Prop := w.heap[vb]? = some (.cells #[.slice (some ⟨b, 0, none⟩) r.n c, .int .i64 r.clk] 30 (0, 0))
theorem TVar.cells {w : World} {vb b c : Nat} {r : Rs} (h : TVar w vb b c r) : w.cell? ⟨vb, 0, none⟩ = some (.slice (some ⟨b, 0, none⟩) r.n c) ∧ w.cell? ⟨vb, 1, none⟩ = some (.int .i64 r.clk) ∧ w.frozen? ⟨vb, 0, none⟩ = false ∧ w.frozen? ⟨vb, 1, none⟩ = false := by
  unfold TVar at h
  have h0 := cell_of h 0
  have h1 := cell_of h 1
  exact ⟨h0, h1, frozen_of h 0, frozen_of h 1⟩
theorem TVar.below {w w' : World} {vb b c : Nat} {r : Rs} (h : TVar w vb b c r) (hb : Below w.heap.size w w') : TVar w' vb b c r := (hb.block vb (heap_lt h)).trans h

def PlayRel (n B : Nat) (W0 : World) (tb vb N : Nat) (g : Nat) (s12 : Value) (wr : World) : Prop :=
  ∃ (k : Nat) (sv fv : Value) (s : Ts Int) (b c : Nat) (r : Rs), k ≤ N ∧ g = N - k ∧ s12 = .int .i64 k ∧ Both B W0 wr tb sv fv s b c r ∧ s.n = n ∧ r.clk ≤ k ∧ TVar wr vb b c r ∧ ¬ Foot tb sv fv vb ∧ b ≠ vb
end Go.Proofs.Ytgpbgakijjdkoaa
