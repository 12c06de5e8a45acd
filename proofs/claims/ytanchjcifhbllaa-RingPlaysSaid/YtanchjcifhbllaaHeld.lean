/-
  A ring of a call's own, kept through its calls; what lies aside of it; which call an act is.
  Conditions: those of each law.
-/
import Derived.Test.YtanchjcifhbllaaPick
import Derived.Test.YtanchjcifhbllaaWeigh
import Derived.Test.YtanchjcifhbllaaTold
import Derived.Test.YtanchjcifhbllaaFairMath
set_option linter.unusedVariables false
namespace Go.Proofs.Ytanchjcifhbllaa
open Go.RowKit Go.Sort

/-- A ring of a call's own: its blocks lie at B or above, and below B all is as it was. -/
structure Held (B : Nat) (W0 W : World) (rb : Nat) (mv : Value) (s : Rg) : Prop where
  lies : RingAt W rb mv s
  ok : Okay s
  hB : B ≤ rb
  own : ∀ k, mv.ownBlock = some k → B ≤ k
  bel : Below B W0 W
  hS : B ≤ W0.heap.size
theorem Held.foot {B : Nat} {W0 W : World} {rb : Nat} {mv : Value} {s : Rg} (h : Held B W0 W rb mv s) {k : Nat} (hk : Foot rb mv k) : B ≤ k ∧ k < W.heap.size := by
  refine ⟨?_, h.lies.foot hk⟩
  rcases hk with rfl | hk
  · exact h.hB
  · exact h.own k hk
theorem Held.below {B : Nat} {W0 W W' : World} {rb : Nat} {mv : Value} {s : Rg} (h : Held B W0 W rb mv s) (hb : Below W.heap.size W W') : Held B W0 W' rb mv s :=
  ⟨h.lies.below hb, h.ok, h.hB, h.own, h.bel.trans (hb.mono (Nat.le_trans h.hS h.bel.size)), h.hS⟩
/-- All but blocks of B or above that are not the ring's may change. -/
theorem Held.keep {B : Nat} {W0 W W' : World} {rb : Nat} {mv : Value} {s : Rg} (h : Held B W0 W rb mv s) (hb : Below B W0 W') (hk : ∀ k, Foot rb mv k → W'.heap[k]? = W.heap[k]?) : Held B W0 W' rb mv s :=
  ⟨h.lies.keep hk, h.ok, h.hB, h.own, hb, h.hS⟩
theorem Held.mut {B : Nat} {W0 W w' : World} {rb : Nat} {mv v : Value} {s s' : Rg} {e : Ending} (h : Held B W0 W rb mv s) (hm : MutPost W rb mv v s' e w') (hk : Okay s') :
    ∃ mv', e = .returned v ∧ Held B W0 w' rb mv' s' ∧ Apart (Foot rb mv) W w' ∧ Grew W mv mv' := by
  obtain ⟨mv', he, h1, h2, h3⟩ := hm
  have hS := Nat.le_trans h.hS h.bel.size
  refine ⟨mv', he, ⟨h1, hk, h.hB, fun k hk => ?_, h.bel.trans (h2.below hS fun k hkB hf => ?_), h.hS⟩, h2, h3⟩
  · rcases h3 k hk with h | h'
    · exact Held.own ‹_› k h
    · omega
  · have := (h.foot hf).1
    omega
/-- Blocks that are none of the ring's. -/
def Aside (F : Nat → Prop) (W : World) (rb : Nat) (mv : Value) : Prop := ∀ k, F k → k < W.heap.size ∧ ¬ Foot rb mv k
theorem Aside.mut {F : Nat → Prop} {W w' : World} {rb : Nat} {mv mv' : Value} (h : Aside F W rb mv) (ha : Apart (Foot rb mv) W w') (hg : Grew W mv mv') : Aside F w' rb mv' ∧ ∀ k, F k → w'.heap[k]? = W.heap[k]? := by
  refine ⟨fun k hk => ⟨Nat.lt_of_lt_of_le (h k hk).1 ha.size, fun hf => ?_⟩, fun k hk => ha.block k (h k hk).1 (h k hk).2⟩
  rcases hf with hf | hf
  · exact (h k hk).2 (.inl hf)
  · rcases hg k hf with e | e
    · exact (h k hk).2 (.inr e)
    · have := (h k hk).1; omega
theorem Aside.more {F : Nat → Prop} {W w' : World} {rb : Nat} {mv : Value} (h : Aside F W rb mv) (hs : W.heap.size ≤ w'.heap.size) : Aside F w' rb mv := fun k hk => ⟨Nat.lt_of_lt_of_le (h k hk).1 hs, (h k hk).2⟩

/-! ### An act -/
def callV (s : Rg) (kind id w : Int) : Value := .int .i64 (callA s kind id w).1
set_option maxRecDepth 100000 in
set_option maxHeartbeats 2000000 in
theorem call_any (W : World) (rb : Nat) (mv : Value) (s : Rg) (kind id w : Int) (nu : Nat) (h : RingAt W rb mv s) (hk : Okay s) :
    Calls Try.prog 14 #[.pointer (some ⟨rb, 0, none⟩), .agg #[.int .i64 kind, .int .i64 id, .int .i64 w, .int .u8 nu]] W (MutPost W rb mv (callV s kind id w) (callA s kind id w).2) := by
  have hb1 := (Below.refl W.heap.size W).alloc (Nat.le_refl _) (.cells #[.int .i64 kind, .int .i64 id, .int .i64 w, .int .u8 nu] 35)
  have hr1 := h.below hb1
  have HB1 := Lib.hid hb1
  have H0 := Lib.hid (join_any _ rb mv s id w hr1 hk)
  have H1 := Lib.hid (leave_any _ rb mv s id hr1 hk)
  have H2 := Lib.hid (block_any _ rb mv s id hr1 hk)
  have H3 := Lib.hid (wake_any _ rb mv s id hr1 hk)
  have H4 := Lib.hid (weigh_any _ rb mv s id w hr1 hk)
  have HM : Hid (∀ (v : Value) (s' : Rg) (e : Ending) (w' : World), MutPost (W.alloc (.cells #[.int .i64 kind, .int .i64 id, .int .i64 w, .int .u8 nu] 35)) rb mv v s' e w' → MutPost W rb mv v s' e w') := fun v s' e w' hm => by
    obtain ⟨mv', he, k1, k2, k3⟩ := hm
    exact ⟨mv', he, k1, (Apart.of_below HB1.out).trans k2 (fun _ _ h => h), fun k hk => (k3 k hk).elim .inl (fun h => .inr (Nat.le_trans HB1.out.size h))⟩
  have HN := Lib.hid (mut_below (v := .int .i64 0) h hb1 rfl)
  unfold callV callA
  clear h hb1 hr1 hk
  by_cases h0 : kind = 0
  · subst h0
    rw [if_pos rfl]
    have q0 : ((0 : Int) == 0) = true := rfl
    go_enter Try.func14, Try.ntmps14
    go_wp2_with fail
    refine H0.out.mono ?_
    intro e w' hm
    have hx := HM.out _ _ _ _ hm
    obtain ⟨mv', rfl, k⟩ := hm
    have HE := Lib.hid hx
    clear k hx
    go_wp2
    go_ret
    exact HE.out
  rw [if_neg h0]
  by_cases h1 : kind = 1
  · subst h1
    rw [if_pos rfl]
    clear h0
    go_enter Try.func14, Try.ntmps14
    go_wp2_with fail
    refine H1.out.mono ?_
    intro e w' hm
    have hx := HM.out _ _ _ _ hm
    obtain ⟨mv', rfl, k⟩ := hm
    have HE := Lib.hid hx
    clear k hx
    go_wp2
    go_ret
    exact HE.out
  rw [if_neg h1]
  by_cases h2 : kind = 2
  · subst h2
    rw [if_pos rfl]
    clear h0 h1
    go_enter Try.func14, Try.ntmps14
    go_wp2_with fail
    refine H2.out.mono ?_
    intro e w' hm
    have hx := HM.out _ _ _ _ hm
    obtain ⟨mv', rfl, k⟩ := hm
    have HE := Lib.hid hx
    clear k hx
    go_wp2
    go_ret
    exact HE.out
  rw [if_neg h2]
  by_cases h3 : kind = 3
  · subst h3
    rw [if_pos rfl]
    clear h0 h1 h2
    go_enter Try.func14, Try.ntmps14
    go_wp2_with fail
    refine H3.out.mono ?_
    intro e w' hm
    have hx := HM.out _ _ _ _ hm
    obtain ⟨mv', rfl, k⟩ := hm
    have HE := Lib.hid hx
    clear k hx
    go_wp2
    go_ret
    exact HE.out
  rw [if_neg h3]
  by_cases h4 : kind = 4
  · subst h4
    rw [if_pos rfl]
    clear h0 h1 h2 h3
    go_enter Try.func14, Try.ntmps14
    go_wp2_with fail
    refine H4.out.mono ?_
    intro e w' hm
    have hx := HM.out _ _ _ _ hm
    obtain ⟨mv', rfl, k⟩ := hm
    have HE := Lib.hid hx
    clear k hx
    go_wp2
    go_ret
    exact HE.out
  rw [if_neg h4]
  have q0 : (kind == 0) = false := beq_eq_false_iff_ne.2 h0
  have q1 : (kind == 1) = false := beq_eq_false_iff_ne.2 h1
  have q2 : (kind == 2) = false := beq_eq_false_iff_ne.2 h2
  have q3 : (kind == 3) = false := beq_eq_false_iff_ne.2 h3
  have q4 : (kind == 4) = false := beq_eq_false_iff_ne.2 h4
  clear H0 H1 H2 H3 H4
  go_enter Try.func14, Try.ntmps14
  go_wp2
  go_ret
  exact HN.out
end Go.Proofs.Ytanchjcifhbllaa
