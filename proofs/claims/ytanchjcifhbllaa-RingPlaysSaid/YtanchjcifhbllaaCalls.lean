/-
  New, Join, Leave, Block by contract.
  Conditions: the ring lies in memory; its numbers fit.
-/
import Derived.Test.YtanchjcifhbllaaClamp
set_option linter.unusedVariables false
namespace Go.Proofs.Ytanchjcifhbllaa
open Go.RowKit Go.Sort

/-- A ring that New made, whatever was called since. -/
structure Okay (s : Rg) : Prop where
  lo : 2048 ≤ s.lim
  hi : s.lim ≤ 1099511627776
  fit : Fit s.lim s
theorem Okay.pos {s : Rg} (h : Okay s) : 0 < s.lim := by have := h.lo; omega
theorem Okay.frac {s : Rg} (h : Okay s) : Frac (floorN s) := by
  obtain ⟨a, b, c⟩ := h.fit.floor
  exact ⟨a, b, Nat.le_trans c (Nat.mul_le_mul_right _ h.hi)⟩
theorem Okay.mem {s : Rg} (h : Okay s) {m : Mb} (hm : m ∈ s.l) : Frac (m.n, m.w) ∧ m.w ≤ 1000 ∧ m.n < 18446744073709551616 ∧ m.id ≤ 200 := by
  obtain ⟨a, b, c, d, e⟩ := h.fit.mem m hm
  have k : m.n ≤ 1099511627776 * m.w := Nat.le_trans e (Nat.mul_le_mul_right _ h.hi)
  exact ⟨⟨c, d, k⟩, d, by omega, b⟩
theorem Okay.len {s : Rg} (h : Okay s) : s.l.length ≤ 32 := h.fit.len
theorem Okay.call {s : Rg} (h : Okay s) (kind id w : Int) : Okay (callA s kind id w).2 := by
  obtain ⟨a, b⟩ := h.fit.call kind id w
  exact ⟨by rw [b]; exact h.lo, by rw [b]; exact h.hi, by rw [b]; exact a⟩
theorem Okay.pick {s : Rg} (h : Okay s) : Okay (pickA s).2 := by
  obtain ⟨a, b⟩ := h.fit.pickA
  exact ⟨by rw [b]; exact h.lo, by rw [b]; exact h.hi, by rw [b]; exact a⟩
def newR (L : Nat) : Rg := ⟨L, 0, 1, []⟩
theorem okay_new {L : Nat} (h1 : 2048 ≤ L) (h2 : L ≤ 1099511627776) : Okay (newR L) :=
  ⟨h1, h2, ⟨show 0 < L by omega, Nat.zero_le _, fun m hm => (by cases hm), show 0 < 1 by decide, show 1 ≤ 1000 by decide, Nat.zero_le _, List.Pairwise.nil⟩⟩

theorem new_bad (limit : Int) (h : limit < 2048 ∨ 1099511627776 < limit) (W : World) : Calls Try.prog 9 #[.int .i64 limit] W (Ret (.tuple #[.pointer none, .int .i64 1]) W) := by
  by_cases h1 : limit < 2048
  · have q1 : decide (limit < 2048) = true := decide_eq_true h1
    go_enter Try.func9, Try.ntmps9
    go_wp2
    go_ret2
    exact ⟨rfl, rfl⟩
  · have q1 : decide (limit < 2048) = false := decide_eq_false h1
    have h2 : 1099511627776 < limit := by omega
    have q2 : decide (1099511627776 < limit) = true := decide_eq_true h2
    go_enter Try.func9, Try.ntmps9
    go_wp2
    go_ret2
    exact ⟨rfl, rfl⟩
def NewPost (W : World) (L : Nat) (e : Ending) (w' : World) : Prop := e = .returned (.tuple #[.pointer (some ⟨W.heap.size, 0, none⟩), .int .i64 0]) ∧ RingAt w' W.heap.size (.slice none 0 0) (newR L) ∧ Below W.heap.size W w'
theorem new_ok (L : Nat) (h1 : 2048 ≤ L) (h2 : L ≤ 1099511627776) (W : World) : Calls Try.prog 9 #[.int .i64 L] W (NewPost W L) := by
  have q1 : decide ((L : Int) < 2048) = false := decide_eq_false (by omega)
  have q2 : decide (1099511627776 < (L : Int)) = false := decide_eq_false (by omega)
  have q3 : (L : Int) ≤ 1099511627776 := by omega
  have HEND : Hid (NewPost W L (.returned (.tuple #[.pointer (some ⟨W.heap.size, 0, none⟩), .int .i64 0])) (W.alloc (.cells #[.int .u64 L, .slice none 0 0, .int .u64 0, .int .u64 1] 60))) :=
    ⟨rfl, ⟨heap_alloc_new W _, World.ownsRow_nil _ _ _ _, fun e => by cases e⟩, (Below.refl _ _).alloc (Nat.le_refl _) _⟩
  go_enter Try.func9, Try.ntmps9
  go_wp2
  go_ret2
  exact HEND.out

set_option maxRecDepth 100000 in
set_option maxHeartbeats 1000000 in
theorem join_any (W : World) (rb : Nat) (mv : Value) (s : Rg) (id w : Int) (h : RingAt W rb mv s) (hk : Okay s) :
    Calls Try.prog 20 #[.pointer (some ⟨rb, 0, none⟩), .int .i64 id, .int .i64 w] W (MutPost W rb mv (.int .i64 (joinA s id w).1) (joinA s id w).2) := by
  have HM := Lib.hid (isMade_any W rb mv s h hk.pos)
  have HR := Lib.hid h
  have HK := Lib.hid hk
  by_cases h1 : id < 1 ∨ 200 < id
  · have HJ : Hid (joinA s id w = (20, s)) := by unfold joinA; rw [if_pos h1]; exact rfl
    rw [HJ.out]
    have HEND := Lib.hid (fun (e : Ending) (he : e = .returned (.int .i64 20)) => mut_below h (Below.refl _ W) he)
    clear h hk
    by_cases h2 : id < 1
    · have q1 : decide (id < 1) = true := decide_eq_true h2
      go_enter Try.func20, Try.ntmps20
      go_wp2_with (go_at_call 31; refine HM.out.mono ?_; rintro e w' ⟨rfl, rfl⟩)
      go_ret
      exact HEND.out _ rfl
    · have q1 : decide (id < 1) = false := decide_eq_false h2
      have q2 : decide (200 < id) = true := decide_eq_true (by omega)
      go_enter Try.func20, Try.ntmps20
      go_wp2_with (go_at_call 31; refine HM.out.mono ?_; rintro e w' ⟨rfl, rfl⟩)
      go_ret
      exact HEND.out _ rfl
  · have q1 : decide (id < 1) = false := decide_eq_false (by omega)
    have q2 : decide (200 < id) = false := decide_eq_false (by omega)
    have HW := Lib.hid (isWeight_any w W)
    by_cases h2 : w < 1 ∨ 1000 < w
    · have HJ : Hid (joinA s id w = (22, s)) := by unfold joinA; rw [if_neg h1, if_pos h2]; exact rfl
      rw [HJ.out]
      rw [decide_eq_false (by omega : ¬ (1 ≤ w ∧ w ≤ 1000))] at HW
      have HEND := Lib.hid (fun (e : Ending) (he : e = .returned (.int .i64 22)) => mut_below h (Below.refl _ W) he)
      clear h hk h1 h2
      go_enter Try.func20, Try.ntmps20
      go_wp2_with (first | (go_at_call 31; refine HM.out.mono ?_; rintro e w' ⟨rfl, rfl⟩) | (go_at_call 36; refine HW.out.mono ?_; rintro e w' ⟨rfl, rfl⟩))
      go_ret
      exact HEND.out _ rfl
    · rw [decide_eq_true (by omega : 1 ≤ w ∧ w ≤ 1000)] at HW
      have HF := Lib.hid (find_any W rb mv s id h (by have := hk.len; omega))
      have hw1 : w ≤ 1000 := by omega
      have hw0 : 1 ≤ w := by omega
      cases hq : findK s.l id with
      | some k =>
        have HJ : Hid (joinA s id w = (11, s)) := by unfold joinA; rw [if_neg h1, if_neg h2, hq]; exact rfl
        rw [HJ.out]
        rw [hq] at HF
        have e : idxO (some k) = (k : Int) := rfl
        rw [e] at HF
        have HEND := Lib.hid (fun (e : Ending) (w' : World) (hb : Below W.heap.size W w') (he : e = .returned (.int .i64 11)) => mut_below h hb he)
        have hk0 : (0 : Int) ≤ (k : Int) := by omega
        clear h hk h1 h2 hq e
        go_enter Try.func20, Try.ntmps20
        go_wp2_with (first | (go_at_call 31; refine HM.out.mono ?_; rintro e w' ⟨rfl, rfl⟩) | (go_at_call 36; refine HW.out.mono ?_; rintro e w' ⟨rfl, rfl⟩))
        refine HF.out.mono ?_
        rintro e w1 ⟨rfl, hb⟩
        have HB := Lib.hid hb
        clear hb
        go_wp2
        go_ret
        exact HEND.out _ _ HB.out rfl
      | none =>
        rw [hq] at HF
        have e : idxO none = -1 := rfl
        rw [e] at HF
        have hlen := hk.len
        obtain ⟨n, hn⟩ : ∃ n, s.l.length = n := ⟨_, rfl⟩
        have HN := Lib.hid hn
        obtain ⟨A, c, rfl⟩ := h.form
        rw [hn] at HR hlen h ⊢
        by_cases hfull : 32 ≤ n
        · have HJ : Hid (joinA s id w = (13, s)) := by unfold joinA; rw [if_neg h1, if_neg h2, hq]; simp only; rw [if_pos (by omega)]; exact rfl
          rw [HJ.out]
          have HEND := Lib.hid (fun (e : Ending) (w' : World) (hb : Below W.heap.size W w') (he : e = .returned (.int .i64 13)) => mut_below h hb he)
          have q3 : (32 : Int) ≤ (n : Int) := by omega
          clear h hk h1 h2 hq e hn
          go_enter Try.func20, Try.ntmps20
          go_wp2_with (first | (go_at_call 31; refine HM.out.mono ?_; rintro e w' ⟨rfl, rfl⟩) | (go_at_call 36; refine HW.out.mono ?_; rintro e w' ⟨rfl, rfl⟩))
          refine HF.out.mono ?_
          rintro e w1 ⟨rfl, hb⟩
          have HB := Lib.hid hb
          obtain ⟨_, c1, _⟩ := (HR.out.below hb).heads
          clear hb
          go_wp2
          go_ret
          exact HEND.out _ _ HB.out rfl
        · obtain ⟨i, rfl⟩ : ∃ i : Nat, id = i := ⟨id.toNat, by omega⟩
          obtain ⟨v, rfl⟩ : ∃ v : Nat, w = v := ⟨w.toNat, by omega⟩
          have HJ : Hid (joinA s i v = (0, joinR s i v)) := by unfold joinA; rw [if_neg h1, if_neg h2, hq]; simp only; rw [if_neg (by omega)]; exact rfl
          rw [HJ.out]
          have q3 : ¬ (32 : Int) ≤ (n : Int) := by omega
          have HFL := Lib.hid (fun (w' : World) (hb : Below W.heap.size W w') => floor_any w' rb _ s s.lim (h.below hb) hk.fit hk.pos (by have := hk.hi; omega))
          have HT := Lib.hid (fun W => times_any (floorN s) v hk.frac (by omega) W)
          have HI := Lib.hid (fun (w' : World) (m : Mb) (hb : Below W.heap.size W w') => ins_any w' rb _ s m (h.below hb) (by rw [hn]; omega))
          unfold passA at HFL HT
          unfold mbA at HI
          unfold joinR
          have HI2 := Lib.hid (fun (w' : World) (hb : Below W.heap.size W w') => HI.out w' ⟨i, v, upN (floorN s) v, true⟩ hb)
          generalize upN (floorN s) v = u at *
          generalize downN (floorN s) v + 1 = d at *
          generalize floorN s = f at *
          simp only at HI2
          clear HI
          have hi1 : (1 : Int) ≤ (i : Int) := by omega
          have hi2 : (i : Int) ≤ 200 := by omega
          have hlim : (v : Int) ≤ 1000 := hw1
          clear h hk h1 h2 hq e hn HJ
          go_enter Try.func20, Try.ntmps20
          go_wp2_with (first | (go_at_call 31; refine HM.out.mono ?_; rintro e w' ⟨rfl, rfl⟩) | (go_at_call 36; refine HW.out.mono ?_; rintro e w' ⟨rfl, rfl⟩))
          refine HF.out.mono ?_
          rintro e w1 ⟨rfl, hb⟩
          have HB := Lib.hid hb
          obtain ⟨_, c1, _⟩ := (HR.out.below hb).heads
          clear hb
          go_wp2_with fail
          refine (HFL.out _ HB.out).mono ?_
          rintro e w2 ⟨rfl, hb⟩
          have HB2 := Lib.hid (HB.out.trans (hb.mono HB.out.size))
          clear hb c1
          go_wp2_with fail
          refine (HT.out _).mono ?_
          rintro e w3 ⟨rfl, hb⟩
          have HB3 := Lib.hid (HB2.out.trans (hb.mono HB2.out.size))
          clear hb
          go_wp2_with fail
          refine (HI2.out _ HB3.out).mono ?_
          rintro e w4 ⟨mv', rfl, k1, k2, k3⟩
          have HEND : Hid (∀ e, e = .returned (.int .i64 0) → MutPost W rb (.slice A n c) (.int .i64 0) { s with l := insM s.l ⟨i, v, u, true⟩ } e w4) := fun e he =>
            ⟨mv', he, k1, (Apart.of_below HB3.out).trans k2 (fun _ _ h => h), fun k hk => (k3 k hk).elim .inl (fun h => .inr (Nat.le_trans HB3.out.size h))⟩
          clear k1 k2 k3
          go_wp2
          go_ret
          exact HEND.out _ rfl
end Go.Proofs.Ytanchjcifhbllaa
