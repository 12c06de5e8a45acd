/-
  A law on regions whose order is open: a load may be taken first where every operation that could come before it leaves the loaded cells as they are, though a store that waits for all loads writes them.
  Conditions: those of each law. The condition S is shown anew behind the operations that N names, not behind the others.
-/
import Derived.Test.YtpfpojehcjmfnaaM21
import Derived.OrdersHeld
import Derived.WalkKit
import Derived.Deep.RegionHeld

/-
  The next core that has room; as many ticks as it gives: of the program.
  Conditions: some core from the current one on has room.
-/
set_option linter.unusedVariables false
set_option linter.unusedSimpArgs false
namespace Go.Proofs.Ytpfpojehcjmfnaa
open Go.RowKit

/-- What is left of the rooms, the current core and tick: a struct in block C, the rooms in block R. -/
structure ChAt (W : World) (C R : Nat) (f : Int) (g : Nat → Int) (core tick : Nat) : Prop where
  box : W.heap[C]? = some (.cells #[.int .i64 f, .slice (some ⟨R, 0, none⟩) 16 16, .int .i64 core, .int .i64 tick] 59 (0, 0))
  row : RowI W R g
  ne : R ≠ C
theorem ChAt.keep {W W' : World} {C R : Nat} {f : Int} {g : Nat → Int} {core tick : Nat} (h : ChAt W C R f g core tick) (hb : Below W.heap.size W W') : ChAt W' C R f g core tick :=
  ⟨keep_block h.box hb, keep_block h.row hb, h.ne⟩
theorem ChAt.drewN {W : World} {C R : Nat} {f : Int} {g : Nat → Int} {core tick : Nat} (h : ChAt W C R f g core tick) (n : Nat) : ChAt (W.drewN n) C R f g core tick := ⟨h.box, h.row, h.ne⟩
theorem ChAt.drew {W : World} {C R : Nat} {f : Int} {g : Nat → Int} {core tick : Nat} (h : ChAt W C R f g core tick) : ChAt W.drew C R f g core tick := ⟨h.box, h.row, h.ne⟩
theorem ChAt.heads {W : World} {C R : Nat} {f : Int} {g : Nat → Int} {core tick : Nat} (h : ChAt W C R f g core tick) :
    W.cell? ⟨C, 0, none⟩ = some (.int .i64 f) ∧ W.cell? ⟨C, 1, none⟩ = some (.slice (some ⟨R, 0, none⟩) 16 16) ∧ W.cell? ⟨C, 2, none⟩ = some (.int .i64 core) ∧ W.cell? ⟨C, 3, none⟩ = some (.int .i64 tick) ∧ W.frozen? ⟨C, 2, none⟩ = false ∧ W.frozen? ⟨C, 3, none⟩ = false := by
  have e := h.box
  refine ⟨?_, ?_, ?_, ?_, ?_, ?_⟩ <;> simp [World.cell?, World.frozen?, e]
theorem ChAt.setCore {W : World} {C R : Nat} {f : Int} {g : Nat → Int} {core tick : Nat} (h : ChAt W C R f g core tick) (c : Nat) : ChAt (W.setCell ⟨C, 2, none⟩ (.int .i64 c)) C R f g c tick :=
  ⟨heap_setCell_mem W C 2 _ _ _ _ h.box, (heap_other W _ h.ne).trans h.row, h.ne⟩
theorem ChAt.setTick {W : World} {C R : Nat} {f : Int} {g : Nat → Int} {core tick : Nat} (h : ChAt W C R f g core tick) (t : Nat) : ChAt (W.setCell ⟨C, 3, none⟩ (.int .i64 t)) C R f g core t :=
  ⟨heap_setCell_mem W C 3 _ _ _ _ h.box, (heap_other W _ h.ne).trans h.row, h.ne⟩
theorem ChAt.setRoom {W : World} {C R : Nat} {f : Int} {g : Nat → Int} {core tick : Nat} (h : ChAt W C R f g core tick) (j : Nat) (x : Int) : ChAt (W.setCell ⟨R, j, none⟩ (.int .i64 x)) C R f (fun i => if i = j then x else g i) core tick :=
  ⟨(heap_other W _ (Ne.symm h.ne)).trans h.box, RowI.set h.row j x, h.ne⟩
theorem ChAt.congr {W : World} {C R : Nat} {f : Int} {g g' : Nat → Int} {core tick : Nat} (h : ChAt W C R f g core tick) (e : ∀ i, i < 16 → g i = g' i) : ChAt W C R f g' core tick := ⟨h.box, h.row.congr e, h.ne⟩
theorem ChAt.apart {W W' : World} {F : Nat → Prop} {C R : Nat} {f : Int} {g : Nat → Int} {core tick : Nat} (h : ChAt W C R f g core tick) (ha : Apart F W W') (hC : ¬ F C) (hR : ¬ F R) : ChAt W' C R f g core tick :=
  ⟨(ha.block C (heap_lt h.box) hC).trans h.box, (ha.block R (heap_lt h.row) hR).trans h.row, h.ne⟩
/-- What a call that changes it leaves. -/
def ChPost (C R : Nat) (f : Int) (v : Value) (g : Nat → Int) (core tick : Nat) (W : World) (e : Ending) (w' : World) : Prop := e = .returned v ∧ ChAt w' C R f g core tick ∧ Apart (fun k => k = C ∨ k = R) W w'

set_option maxRecDepth 100000 in
set_option maxHeartbeats 4000000 in
theorem skip_any (W : World) (C R : Nat) (f : Int) (g : Nat → Int) (core tick c1 : Nat) (h : ChAt W C R f g core tick) (h1 : core ≤ c1) (h2 : c1 < 16) (h3 : g c1 ≠ 0) (h4 : ∀ i, core ≤ i → i < c1 → g i = 0) :
    Calls Try.prog 38 #[.pointer (some ⟨C, 0, none⟩)] W (ChPost C R f (.tuple #[]) g c1 tick W) := by
  have HC := Lib.hid h
  have H3 := Lib.hid h3
  have H4 := Lib.hid h4
  clear h h3 h4
  go_enter Try.func38, Try.ntmps38
  go_wp2_with fail
  go_loopg [] (c1 - core) (fun gg wr => ∃ k : Nat, core ≤ k ∧ k ≤ c1 ∧ gg = c1 - k ∧ ChAt wr C R f g k tick ∧ Apart (fun b => b = C ∨ b = R) W wr)
  case atStart => exact ⟨core, Nat.le_refl _, h1, rfl, HC.out, Apart.refl _ _⟩
  case round =>
    obtain ⟨k, hk0, hk1, hg, hc, ha⟩ := hrel
    have HG := Lib.hid hg
    have HCK := Lib.hid hc
    have HA := Lib.hid ha
    obtain ⟨a0, a1, a2, a3, z2, z3⟩ := hc.heads
    have hk16 : k < 16 := by omega
    have a4 := hc.row.cell hk16
    have hkz : (k : Int) < 16 := by omega
    have hkz0 : (0 : Int) ≤ (k : Int) := by omega
    obtain ⟨x, hx⟩ : ∃ x, g k = x := ⟨_, rfl⟩
    rw [hx] at a4
    have HX := Lib.hid hx
    clear hc ha hg hx
    by_cases hlt : k < c1
    · have hx0 : x = 0 := by rw [← HX.out]; exact H4.out k hk0 hlt
      subst hx0
      clear HX
      go_wp2_with fail
      go_quiet (fail)
      go_wp2_with fail
      go_roundg (c1 - (k + 1))
      case measure => have := HG.out; omega
      case rel => exact ⟨k + 1, by omega, by omega, rfl, (HCK.out.drewN nq).setCore (k + 1), (HA.out.drewN nq).set (p := ⟨C, 2, none⟩) (.inl (.inl rfl)) _⟩
    · have hx0 : (x == 0) = false := by
        have := H3.out
        rw [show c1 = k by omega, HX.out] at this
        simpa using this
      go_wp2_with fail
      go_quiet (fail)
      go_wp2_with fail
      refine bodyPost_end (results_none rfl _ _ _) rfl ?_
      obtain rfl : c1 = k := by omega
      exact ⟨rfl, HCK.out.drewN nq, HA.out.drewN nq⟩

set_option maxRecDepth 100000 in
set_option maxHeartbeats 4000000 in
theorem take_any (W : World) (C R : Nat) (f : Int) (g : Nat → Int) (core tick c1 : Nat) (n : Int) (h : ChAt W C R f g core tick) (h1 : core ≤ c1) (h2 : c1 < 16) (h3 : 0 < g c1) (h4 : ∀ i, core ≤ i → i < c1 → g i = 0) (h5 : g c1 ≤ 1000) (h6 : 0 < n) (h7 : n ≤ 1000) :
    Calls Try.prog 39 #[.pointer (some ⟨C, 0, none⟩), .int .i64 n] W (ChPost C R f (.int .i64 (min n (g c1))) (fun i => if i = c1 then g c1 - min n (g c1) else g i) c1 tick W) := by
  have HSK := Lib.hid (skip_any W C R f g core tick c1 h h1 h2 (by omega) h4)
  obtain ⟨x, hx⟩ : ∃ x, g c1 = x := ⟨_, rfl⟩
  have HX := Lib.hid hx
  rw [hx] at h3 h5 ⊢
  obtain ⟨y, hy⟩ : ∃ y, min n x = y := ⟨_, rfl⟩
  have hy1 : 0 < y := by omega
  have hy2 : y ≤ x := by omega
  rw [hy]
  clear h h4 h1 hx
  go_enter Try.func39, Try.ntmps39
  go_wp2_with fail
  refine HSK.out.mono ?_
  rintro e w1 ⟨rfl, hc, ha⟩
  have HC := Lib.hid hc
  have HA := Lib.hid ha
  obtain ⟨a0, a1, a2, a3, z2, z3⟩ := hc.heads
  have a4 := hc.row.cell h2
  rw [HX.out] at a4
  have hkz : (c1 : Int) < 16 := by omega
  have hkz0 : (0 : Int) ≤ (c1 : Int) := by omega
  clear hc ha
  go_wp2_with fail
  go_quiet (fail)
  have HC2 := Lib.hid (HC.out.drewN nq)
  have HA2 := Lib.hid (HA.out.drewN nq)
  generalize w1.drewN nq = w2 at *
  clear a0 a1 a2 a3 a4 z2 z3 hy
  obtain ⟨a0, a1, a2, a3, z2, z3⟩ := HC2.out.heads
  have a4 := HC2.out.row.cell h2
  have a5 := HC2.out.row.frozen c1
  rw [HX.out] at a4
  go_wp2_with fail
  go_region
  go_wp2_with fail
  go_ret
  exact ⟨rfl, (HC2.out.setRoom c1 (x - y)).drew, (HA2.out.set (p := ⟨R, c1, none⟩) (.inl (.inr rfl)) _).drewN 1⟩
end Go.Proofs.Ytpfpojehcjmfnaa

/-
  A law on regions whose order is open: a load may be taken first where every operation that could come before it leaves the loaded cells as they are, though a store that waits for all loads writes them.
  Conditions: those of each law. The condition S is shown anew behind the operations that N names, not behind the others.
-/
namespace Go.Proofs.Ytpfpojehcjmfnaa
open Go

section
variable {P : Program} {ops : Array Oper} {Q : Exit → Act → World → Prop} {md : Region.Mode} {S1 S2 : World → Prop} {N : Nat → Bool}

/-- Whatever order is drawn; behind each operation the world meets S1, and an operation that N names keeps S2. -/
def wpAnyN (P : Program) (md : Region.Mode) (ops : Array Oper) (Q : Exit → Act → World → Prop) (S1 S2 : World → Prop) (N : Nat → Bool) : Nat → Array Bool → Act → World → Prop
  | 0, listed, a, w => Region.ready md ops listed = [] ∧ Q .normal a w
  | fuel + 1, listed, a, w =>
    (Region.ready md ops listed = [] → Q .normal a w) ∧
    ∀ i ∈ Region.ready md ops listed, wpOp P ops Q i (fun a' w' => (S1 w' ∧ (N i = true → S2 w → S2 w')) ∧ wpAnyN P md ops Q S1 S2 N fuel (listed.setIfInBounds i true) a' w') a w

theorem wpAny_of_N : ∀ (fuel : Nat) (listed : Array Bool) (a : Act) (w : World), wpAnyN P md ops Q S1 S2 N fuel listed a w → wpAny P md ops Q fuel listed a w
  | 0, _, _, _, h => h
  | fuel + 1, _, _, _, h => ⟨h.1, fun i hi => wpOp_mono (fun _ _ h' => wpAny_of_N fuel _ _ _ h'.2) (h.2 i hi)⟩

/-- What a taken operation may lean on: S1, and S2 where 'b2' says so. -/
def Leans (S1 S2 : World → Prop) (b2 : Bool) (w : World) : Prop := S1 w ∧ (b2 = true → S2 w)

/-- Operation i may be taken first: every other one that has not come up waits for it, or is apart from it and keeps what it leans on. -/
theorem wpAnyN_first {i : Nat} {oi : Oper} {v : Value} {b2 : Bool} (hi : ops[i]? = some oi) (hsel : ∀ (j : Nat) (o : Oper) cs b, ops[j]? = some o → o.op ≠ .select cs b)
    (hQ : ∀ c a w, Q (.panic c) (a.put oi.dst v) w → Q (.panic c) a w) :
    ∀ (fuel : Nat) (listed : Array Bool) (a : Act) (w : World),
      (∀ j oj, ops[j]? = some oj → j ≠ i → listed.getD j true = false → (∀ e ∈ oj.after, Region.binds md e = true → e.on ≠ i) → oi.apart ops oj = true ∧ (b2 = true → N j = true)) →
      i ∈ Region.ready md ops listed → YieldsIf P ops (Leans S1 S2 b2) oi v a → Leans S1 S2 b2 w →
      wpAnyN P md ops Q S1 S2 N fuel (listed.setIfInBounds i true) (a.put oi.dst v) w → wpAnyN P md ops Q S1 S2 N (fuel + 1) listed a w := by
  intro fuel
  induction fuel with
  | zero =>
    intro listed a w _ hr hy hS H
    refine ⟨fun h => (by rw [h] at hr; cases hr), fun j hj => ?_⟩
    by_cases hji : j = i
    · subst hji; exact hy.wpOp hi hS ⟨⟨hS.1, fun _ h => h⟩, H⟩
    · have := ready_mono hj hji
      rw [H.1] at this
      cases this
  | succ fuel ih =>
    intro listed a w hfree hr hy hS H
    refine ⟨fun h => (by rw [h] at hr; cases hr), fun j hj => ?_⟩
    by_cases hji : j = i
    · subst hji; exact hy.wpOp hi hS ⟨⟨hS.1, fun _ h => h⟩, H⟩
    · have h1 := H.2 j (ready_mono hj hji)
      obtain ⟨hjun, oj, hoj, hall⟩ := mem_ready.1 hj
      have hnot : ∀ e ∈ oj.after, Region.binds md e = true → e.on ≠ i := fun e he hb heq => by
        have h1 := hall e he hb
        have h0 := (mem_ready.1 hr).1
        rw [heq] at h1
        rcases Nat.lt_or_ge i listed.size with h' | h'
        · simp [h'] at h0 h1; rw [h0] at h1; cases h1
        · simp [Array.getElem?_eq_none h'] at h1
      obtain ⟨hap, hN⟩ := hfree j oj hoj hji hjun hnot
      have h2 := wpOp_putIf hoj hap (fun cs b => hsel i oi cs b hi) (fun cs b => hsel j oj cs b hoj) hQ hy h1
      have hfree' : ∀ k ok, ops[k]? = some ok → k ≠ i → (listed.setIfInBounds j true).getD k true = false →
          (∀ e ∈ ok.after, Region.binds md e = true → e.on ≠ i) → oi.apart ops ok = true ∧ (b2 = true → N k = true) := fun k ok hk hki hun hno => by
        refine hfree k ok hk hki ?_ hno
        by_cases hjk : j = k
        · subst hjk; exact hjun
        · rw [getD_set_ne true hjk] at hun; exact hun
      refine wpOp_mono (fun a' w' h3 => ⟨h3.2.1, ih (listed.setIfInBounds j true) a' w' hfree' (ready_mono hr (Ne.symm hji)) h3.1 ⟨h3.2.1.1, fun hb => h3.2.1.2 (hN hb) (hS.2 hb)⟩ ?_⟩) h2
      rw [Array.setIfInBounds_comm _ _ hji]
      exact h3.2.2

/-- The side condition as a Bool. -/
def freeOrd (md : Region.Mode) (ops : Array Oper) (N : Nat → Bool) (b2 : Bool) (listed : Array Bool) (i : Nat) : Bool :=
  match ops[i]? with
  | none => false
  | some oi => (List.range ops.size).all fun j => j == i || listed.getD j true || match ops[j]? with
      | some oj => oj.after.any (fun e => Region.binds md e && e.on == i) || (oi.apart ops oj && (!b2 || N j))
      | none => true

theorem freeOrd_spec {i : Nat} {oi : Oper} {b2 : Bool} {listed : Array Bool} (hi : ops[i]? = some oi) (h : freeOrd md ops N b2 listed i = true) (j : Nat) (oj : Oper)
    (hj : ops[j]? = some oj) (hne : j ≠ i) (hun : listed.getD j true = false) (hno : ∀ e ∈ oj.after, Region.binds md e = true → e.on ≠ i) :
    oi.apart ops oj = true ∧ (b2 = true → N j = true) := by
  simp only [freeOrd, hi, List.all_eq_true, List.mem_range] at h
  have h1 := h j (Array.getElem?_eq_some_iff.1 hj).1
  simp only [hj, Bool.or_eq_true, beq_iff_eq, hne, false_or, hun, Bool.false_eq_true, Bool.and_eq_true] at h1
  rcases h1 with h1 | h1
  · obtain ⟨e, he, hb⟩ := Array.any_eq_true'.1 h1
    simp only [Bool.and_eq_true, beq_iff_eq] at hb
    exact absurd hb.2 (hno e he hb.1)
  · refine ⟨h1.1, fun hb => ?_⟩
    rcases h1.2 with h2 | h2
    · rw [hb] at h2; cases h2
    · exact h2

theorem wpAnyN_take {i : Nat} {oi : Oper} {v : Value} {fuel : Nat} {listed : Array Bool} {a : Act} {w : World} (b2 : Bool) (hi : ops[i]? = some oi)
    (hs : Region.noSelect ops = true) (hf : freeOrd md ops N b2 listed i = true) (hr : (Region.ready md ops listed).contains i = true)
    (hQ : ∀ c a w, Q (.panic c) (a.put oi.dst v) w → Q (.panic c) a w) (hy : YieldsIf P ops (Leans S1 S2 b2) oi v a) (hS : Leans S1 S2 b2 w)
    (h : wpAnyN P md ops Q S1 S2 N fuel (listed.setIfInBounds i true) (a.put oi.dst v) w) : wpAnyN P md ops Q S1 S2 N (fuel + 1) listed a w :=
  wpAnyN_first hi (Region.noSelect_spec hs) hQ fuel listed a w (freeOrd_spec hi hf) (by simpa using hr) hy hS h

/-- One alone may come up. -/
theorem wpAnyN_step {i : Nat} {o : Oper} {fuel : Nat} {listed : Array Bool} {a : Act} {w : World} (hr : Region.ready md ops listed = [i]) (ho : ops[i]? = some o) (hw : Region.wanted o (yielded ops a.tmps) = true)
    (h : ∀ K' : Act → World → Prop, Shut (∀ a w', S1 w' → (N i = true → S2 w → S2 w') → wpAnyN P md ops Q S1 S2 N fuel (listed.setIfInBounds i true) a w' → K' a w') → Oper.wp P o a w K' Q) :
    wpAnyN P md ops Q S1 S2 N (fuel + 1) listed a w :=
  ⟨fun h0 => absurd (hr.symm.trans h0) (by intro e; cases e), fun j hj => by
    rw [hr] at hj
    obtain rfl := List.mem_singleton.1 hj
    exact wpOp_step ho (fun K' hK => by
      rw [if_pos hw]
      exact h K' (fun a w h1 h2 hW => hK a w ⟨⟨h1, h2⟩, hW⟩))⟩

theorem wpAnyN_done {listed : Array Bool} {a : Act} {w : World} (hr : Region.ready md ops listed = []) (h : Q .normal a w) : wpAnyN P md ops Q S1 S2 N 0 listed a w := ⟨hr, h⟩

/-- Two may come up. -/
theorem wpAnyN_two {i j : Nat} {oi oj : Oper} {fuel : Nat} {listed : Array Bool} {a : Act} {w : World} (hr : Region.ready md ops listed = [i, j]) (hi : ops[i]? = some oi) (hj : ops[j]? = some oj)
    (wi : Region.wanted oi (yielded ops a.tmps) = true) (wj : Region.wanted oj (yielded ops a.tmps) = true)
    (h1 : ∀ K' : Act → World → Prop, Shut (∀ a w', S1 w' → (N i = true → S2 w → S2 w') → wpAnyN P md ops Q S1 S2 N fuel (listed.setIfInBounds i true) a w' → K' a w') → Oper.wp P oi a w K' Q)
    (h2 : ∀ K' : Act → World → Prop, Shut (∀ a w', S1 w' → (N j = true → S2 w → S2 w') → wpAnyN P md ops Q S1 S2 N fuel (listed.setIfInBounds j true) a w' → K' a w') → Oper.wp P oj a w K' Q) :
    wpAnyN P md ops Q S1 S2 N (fuel + 1) listed a w :=
  ⟨fun h0 => absurd (hr.symm.trans h0) (by intro e; cases e), fun k hk => by
    rw [hr] at hk
    rcases List.mem_cons.1 hk with rfl | hk
    · exact wpOp_step hi (fun K' hK => by
        rw [if_pos wi]
        exact h1 K' (fun a w h1 h2 hW => hK a w ⟨⟨h1, h2⟩, hW⟩))
    · obtain rfl := List.mem_singleton.1 hk
      exact wpOp_step hj (fun K' hK => by
        rw [if_pos wj]
        exact h2 K' (fun a w h1 h2 hW => hK a w ⟨⟨h1, h2⟩, hW⟩))⟩

theorem wpOp_mono' {i : Nat} {K K' : Act → World → Prop} {a : Act} {w : World} (h : ∀ a w, K a w → K' a w) (hw : wpOp P ops Q i K a w) : wpOp P ops Q i K' a w := wpOp_mono h hw
/-- What is kept may be asked for more sharply from here on. -/
theorem wpAnyN_sharp {S1' : World → Prop} (h : ∀ w, S1' w → S1 w) : ∀ (fuel : Nat) (listed : Array Bool) (a : Act) (w : World), wpAnyN P md ops Q S1' S2 N fuel listed a w → wpAnyN P md ops Q S1 S2 N fuel listed a w
  | 0, _, _, _, hw => hw
  | fuel + 1, _, _, _, hw => ⟨hw.1, fun i hi => wpOp_mono (fun _ _ h' => ⟨⟨h _ h'.1.1, h'.1.2⟩, wpAnyN_sharp h fuel _ _ _ h'.2⟩) (hw.2 i hi)⟩

theorem wp_region_N {id : Nat} {a : Act} {w : World} (hm : P.follows .mixedOrders = true)
    (h : wpAnyN P .any ops Q S1 S2 N ops.size (Array.replicate ops.size false) a w.drew) : (Code.region id ops true).wp P Q a w :=
  wp_region_any hm (wpAny_of_N _ _ _ _ h)
end
end Go.Proofs.Ytpfpojehcjmfnaa
