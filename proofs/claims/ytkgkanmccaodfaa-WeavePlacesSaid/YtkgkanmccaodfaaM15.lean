/-
  A tick sought for by the program's matching: found, or in vain.
  Conditions: the block is a matching; the slice reads as the cores.
-/
import Derived.Test.YtkgkanmccaodfaaM05
import Derived.Test.YtkgkanmccaodfaaM14
import Derived.Test.YtkgkanmccaodfaaM03

/-
  A tick sought for by the program's matching: found, or in vain.
  Conditions: the block is a matching; the slice reads as the cores.
-/
set_option linter.unusedVariables false
set_option linter.unusedSimpArgs false
namespace Go.Proofs.Ytkgkanmccaodfaa
open Go.RowKit

structure MAt (W0 W : World) (M : Nat) (F : Int) (v : Value) (g r ow : Nat → Nat) (T : Nat → Bool) : Prop where
  apart : Apart (fun b => b = M) W0 W
  box : MatchIn W M F v g r ow T
def AssignPost (W : World) (M : Nat) (F : Int) (v : Value) (g r ow : Nat → Nat) (T : Nat → Bool) (t : Nat) (e : Ending) (W' : World) : Prop :=
  ∃ ow' T', MAt W W' M F v g r ow' T' ∧ ((e = .returned (.bool true) ∧ Found g r T t ow ow') ∨ (e = .returned (.bool false) ∧ ow' = ow ∧ Vain g r ow T T' ∧ AllTried g t T'))
def AssignC (W0 : World) (M : Nat) (F : Int) (v : Value) (g r : Nat → Nat) (n : Nat) : Prop :=
  ∀ (ow : Nat → Nat) (T : Nat → Bool) (t : Nat) (W : World), untr T ≤ n → t < 64 → OwnOk g r ow → (∀ j, ownN ow j ≤ 1) → (∀ c, c < 16 → T c = false → (ow c).testBit t = false) → MAt W0 W M F v g r ow T →
    Calls Try.prog 53 #[.pointer (some ⟨M, 0, none⟩), .int .i64 (t : Int)] W (AssignPost W M F v g r ow T t)
def YieldPost (W : World) (M : Nat) (F : Int) (v : Value) (g r ow : Nat → Nat) (T : Nat → Bool) (k : Nat) (e : Ending) (W' : World) : Prop :=
  ∃ ow' T', MAt W W' M F v g r ow' T' ∧ ((e = .returned (.bool true) ∧ Moved g r T k ow ow') ∨ (e = .returned (.bool false) ∧ ow' = ow ∧ Vain g r ow T T' ∧ ∀ j, (ow k).testBit j = true → AllTried g j T'))
theorem MAt.setOwn {W0 W : World} {M : Nat} {F : Int} {v : Value} {g r ow : Nat → Nat} {T : Nat → Bool} (h : MAt W0 W M F v g r ow T) {W' : World} (hb : Below W.heap.size W W') {c : Nat} (hc : c < 16) (x : Nat) :
    MAt W0 (W'.setCell ⟨M, 34 + c, none⟩ (.int .u64 (x : Int))) M F v g r (putO ow c x) T :=
  ⟨(h.apart.trans (Apart.of_below (F := fun b => b = M) hb) fun _ _ e => e).set (.inl rfl) _, MatchIn.setOwn (keep_block h.box hb) hc⟩
theorem MAt.setTried {W0 W : World} {M : Nat} {F : Int} {v : Value} {g r ow : Nat → Nat} {T : Nat → Bool} (h : MAt W0 W M F v g r ow T) {c : Nat} (hc : c < 16) :
    MAt W0 (W.setCell ⟨M, 50 + c, none⟩ (.bool true)) M F v g r ow (setT1 T c) := ⟨h.apart.set (.inl rfl) _, MatchIn.setTried h.box hc⟩
theorem MAt.keep {W0 W : World} {M : Nat} {F : Int} {v : Value} {g r ow : Nat → Nat} {T : Nat → Bool} (h : MAt W0 W M F v g r ow T) {W' : World} (hb : Below W.heap.size W W') : MAt W0 W' M F v g r ow T :=
  ⟨h.apart.trans (Apart.of_below (F := fun b => b = M) hb) fun _ _ e => e, keep_block h.box hb⟩
theorem MAt.trans {W0 W W' : World} {M : Nat} {F : Int} {v : Value} {g r ow ow' : Nat → Nat} {T T' : Nat → Bool} (h : MAt W0 W M F v g r ow T) (h' : MAt W W' M F v g r ow' T') : MAt W0 W' M F v g r ow' T' := ⟨h.apart.trans h'.apart fun _ _ e => e, h'.box⟩
theorem MAt.self {W0 W : World} {M : Nat} {F : Int} {v : Value} {g r ow : Nat → Nat} {T : Nat → Bool} (h : MAt W0 W M F v g r ow T) : MAt W W M F v g r ow T := ⟨Apart.refl _ _, h.box⟩
theorem ticks_is {m : Nat} {i : Nat} {x : Int} (h : (ticksI m 64)[i]? = some x) : ∃ j : Nat, x = (j : Int) ∧ j < 64 ∧ m.testBit j = true := by
  obtain ⟨j, e, hj⟩ := ticksI_get h
  obtain ⟨h1, h2, _⟩ := (tick_iff m i j).1 hj
  exact ⟨j, e, h1, h2⟩
theorem ticks_has {m j : Nat} (hj : j < 64) (h : m.testBit j = true) : ∃ i : Nat, (ticksI m 64)[i]? = some (j : Int) := by
  refine ⟨cntT m j, ?_⟩
  have := (tick_iff m (cntT m j) j).2 ⟨hj, h, rfl⟩
  unfold ticksI
  rw [List.getElem?_map]
  show ((ticks m)[cntT m j]?).map _ = _
  rw [this]
  rfl
theorem of_one {t : Nat} (h : t < 64) : ofI [(t : Int)] = withN 0 t := by
  show withI 0 (t : Int) = _
  exact withI_nat h

set_option maxRecDepth 100000 in
set_option maxHeartbeats 8000000 in
theorem yield_any (W0 : World) (M : Nat) (F : Int) (v : Value) (g r : Nat → Nat) (n : Nat) (hA : AssignC W0 M F v g r n) (ow : Nat → Nat) (T : Nat → Bool) (k : Nat) (W : World) (hn : untr T ≤ n) (hk : k < 16) (hT : T k = true)
    (hok : OwnOk g r ow) (hone : ∀ j, ownN ow j ≤ 1) (hm : MAt W0 W M F v g r ow T) :
    Calls Try.prog 78 #[.pointer (some ⟨M, 0, none⟩), .int .i64 (k : Int)] W (YieldPost W M F v g r ow T k) := by
  have mixed : Try.prog.follows .mixedOrders = true := by kernel_rfl
  have hk0 : (0 : Int) ≤ (k : Int) := by omega
  have hk16 : (k : Int) < 16 := by omega
  have HA := Lib.hid hA
  have HN := Lib.hid hn
  have HT := Lib.hid hT
  have HOK := Lib.hid hok
  have HONE := Lib.hid hone
  have HM := Lib.hid hm
  have m0 := hm.box.own hk
  have HLT := Lib.hid (hok.lt k hk)
  obtain ⟨xs, hxs⟩ : ∃ xs, ticksI (ow k) 64 = xs := ⟨_, rfl⟩
  have hnx64 : xs.length ≤ 64 := by rw [← hxs, ticksI_length]; exact cntT_le _ _
  have HX1 : Hid (∀ (i : Nat) (x : Int), xs[i]? = some x → ∃ j : Nat, x = (j : Int) ∧ j < 64 ∧ (ow k).testBit j = true) := Lib.hid (fun i x h => ticks_is (by rw [hxs]; exact h))
  have HX2 : Hid (∀ j : Nat, (ow k).testBit j = true → ∃ i : Nat, xs[i]? = some (j : Int)) := Lib.hid (fun j h => by
    rw [← hxs]
    refine ticks_has ?_ h
    rcases Nat.lt_or_ge j 64 with h1 | h1
    · exact h1
    · rw [bit_big HLT.out h1] at h; cases h)
  have HTI := Lib.hid (ticksF_any (ow k) W HLT.out fun W => count_any _ W HLT.out)
  rw [hxs] at HTI
  clear hA hn hT hok hone hm hxs
  go_enter Try.func78, Try.ntmps78
  go_wp2_with fail
  refine HTI.out.mono ?_
  rintro e w2 ⟨v2, rfl, hv2, hb2, hfr⟩
  have HFR : Hid (∀ b, v2.ownBlock = some b → ¬ b = M) := Lib.hid (fun b hb e => by have h1 := hfr b hb; have h2 := heap_lt HM.out.box; omega)
  have HV2 := Lib.hid hv2
  have HM2 := Lib.hid (HM.out.self.keep hb2)
  obtain ⟨A2, c2, rfl, hl2, _⟩ := hv2
  obtain ⟨nx, hnx⟩ : ∃ nx, xs.length = nx := ⟨_, rfl⟩
  rw [hnx] at HV2 HFR hnx64 ⊢
  have HNX := Lib.hid hnx
  clear hb2 hfr m0 hnx hl2
  go_wp2_with fail
  go_loopg [6, 15] nx (fun gg s6 s15 wr => ∃ (i : Nat) (T' : Nat → Bool), i ≤ nx ∧ gg = nx - i ∧ s15 = .int .i64 i ∧ Hid (MAt W wr M F v g r ow T') ∧ Hid (Apart (fun b => b = M) w2 wr) ∧ Hid (Vain g r ow T T') ∧ Hid (∀ a, a < i → ∀ j : Nat, xs[a]? = some (j : Int) → AllTried g j T'))
  case atStart => exact ⟨0, T, Nat.zero_le _, rfl, rfl, HM2, Lib.hid (Apart.refl _ _), Lib.hid (Vain.refl _ _ _ _), Lib.hid (fun a h => absurd h (Nat.not_lt_zero _))⟩
  case round =>
    obtain ⟨i, T', hi, hgg, rfl, HMR, HAP, HVN, HAL⟩ := hrel
    have HG := Lib.hid hgg
    clear hgg
    by_cases hlt : i < nx
    · have hltz : (i : Int) < (nx : Int) := by omega
      have hi0 : (0 : Int) ≤ (i : Int) := by omega
      obtain ⟨x, hx⟩ : ∃ x, xs[i]? = some x := ⟨_, List.getElem?_eq_getElem (by rw [HNX.out]; exact hlt)⟩
      obtain ⟨j, rfl, hj64, hbj⟩ := HX1.out i x hx
      obtain ⟨A', c', hA', hlm, hcell⟩ := HV2.out.apart HFR.out HAP.out
      obtain ⟨b, off, hAb, hbl, hc⟩ := hcell (by rw [HNX.out]; omega)
      have c0 := hc i _ hx
      rw [hAb] at hA'
      obtain ⟨rfl, -, -⟩ : A2 = some ⟨b, off, none⟩ ∧ True ∧ True := by simp only [Value.slice.injEq] at hA'; exact ⟨hA'.1, trivial, trivial⟩
      have HXI := Lib.hid hx
      have HBJ := Lib.hid hbj
      have HJ64 := Lib.hid hj64
      have HCA := Lib.hid (HA.out ow T' j wr (Nat.le_trans (untr_mono HVN.out.more) HN.out) hj64 HOK.out HONE.out (fun c hc hcT => by
        rw [← Bool.not_eq_true]
        intro hb
        have := own_two (HONE.out j) hc hk hb HBJ.out
        subst this
        have := HVN.out.more c hc HT.out
        rw [hcT] at this
        cases this) (HM.out.trans HMR.out))
      clear hcell hc hA' hAb hlm hx hbj
      go_wp2_with fail
      refine HCA.out.mono ?_
      rintro e w3 ⟨ow2, T2, hm3, ⟨rfl, hf⟩ | ⟨rfl, how, hv, hs⟩⟩
      · have HM3 := Lib.hid (HMR.out.trans hm3)
        have HF := Lib.hid hf
        have HO2 : Hid (ow2 k = ow k) := Lib.hid (hf.kept k hk (HVN.out.more k hk HT.out))
        obtain ⟨O, hO⟩ : ∃ O, ow2 k = O := ⟨_, rfl⟩
        have m1 := hm3.box.own hk
        rw [hO] at m1
        have HBX := Lib.hid hm3.box
        have lM : M < w3.heap.size := heap_lt hm3.box
        obtain ⟨t1, ht1⟩ : ∃ t1, withN 0 j = t1 := ⟨_, rfl⟩
        have HOF : Hid (ofI [(j : Int)] = t1) := Lib.hid (by rw [of_one HJ64.out, ht1])
        obtain ⟨R, hR⟩ : ∃ R, lessN O t1 = R := ⟨_, rfl⟩
        have hand : bits BinOp.andNot IntKind.u64 (O : Int) (t1 : Int) = (R : Int) := by
          rw [andNot_word O t1 (by rw [← hO]; exact hf.ok.lt k hk) (by rw [← ht1]; exact withN_lt (by decide) hj64), hR]
        have HMV : Hid (Moved g r T k ow (putO ow2 k R)) := Lib.hid (by
          rw [← hR, ← hO, ← ht1]
          exact moved_found hk HJ64.out (HVN.out.more k hk HT.out) HBJ.out HVN.out.more HF.out)
        clear hm3 hf hO ht1 hR c0
        go_wp2_with fail
        refine wp_region_N (S1 := fun w' => True) (S2 := fun w' => w'.cell? ⟨M, 34 + k, none⟩ = some (.int .u64 (O : Int))) (N := fun i => i != 13) (by kernel_rfl) ?_
        change wpAnyN _ _ _ _ _ _ _ 14 (Array.replicate 14 false) _ _
        refine wpAnyN_take false (i := 0) (oi := ⟨some 22, _, _, _, _, _⟩) (v := ?_) rfl (by kernel_rfl) (by kernel_rfl) (by kernel_rfl) (fun _ _ _ h => h) (Or.inl ⟨by kernel_rfl, ?_⟩) ⟨trivial, fun h => (by cases h)⟩ ?_
        rotate_left
        · (intro w hSw; obtain ⟨hSa, hSb⟩ := hSw; clear hSb; (try dsimp only at hSa); go_simp; try with_reducible rfl)
        (try simp only [Act.put, List.setIfInBounds_toArray, List.set_cons_zero, List.set_cons_succ])
        refine wpAnyN_take false (i := 1) (oi := ⟨some 23, _, _, _, _, _⟩) (v := ?_) rfl (by kernel_rfl) (by kernel_rfl) (by kernel_rfl) (fun _ _ _ h => h) (Or.inl ⟨by kernel_rfl, ?_⟩) ⟨trivial, fun h => (by cases h)⟩ ?_
        rotate_left
        · (intro w hSw; obtain ⟨hSa, hSb⟩ := hSw; clear hSb; (try dsimp only at hSa); go_simp; try with_reducible rfl)
        (try simp only [Act.put, List.setIfInBounds_toArray, List.set_cons_zero, List.set_cons_succ])
        refine wpAnyN_take false (i := 2) (oi := ⟨some 24, _, _, _, _, _⟩) (v := ?_) rfl (by kernel_rfl) (by kernel_rfl) (by kernel_rfl) (fun _ _ _ h => h) (Or.inl ⟨by kernel_rfl, ?_⟩) ⟨trivial, fun h => (by cases h)⟩ ?_
        rotate_left
        · (intro w hSw; obtain ⟨hSa, hSb⟩ := hSw; clear hSb; (try dsimp only at hSa); go_simp; try with_reducible rfl)
        (try simp only [Act.put, List.setIfInBounds_toArray, List.set_cons_zero, List.set_cons_succ])
        refine wpAnyN_take false (i := 3) (oi := ⟨some 25, _, _, _, _, _⟩) (v := ?_) rfl (by kernel_rfl) (by kernel_rfl) (by kernel_rfl) (fun _ _ _ h => h) (Or.inl ⟨by kernel_rfl, ?_⟩) ⟨trivial, fun h => (by cases h)⟩ ?_
        rotate_left
        · (intro w hSw; obtain ⟨hSa, hSb⟩ := hSw; clear hSb; (try dsimp only at hSa); go_simp; try with_reducible rfl)
        (try simp only [Act.put, List.setIfInBounds_toArray, List.set_cons_zero, List.set_cons_succ])
        refine wpAnyN_take false (i := 4) (oi := ⟨some 26, _, _, _, _, _⟩) (v := ?_) rfl (by kernel_rfl) (by kernel_rfl) (by kernel_rfl) (fun _ _ _ h => h) (Or.inl ⟨by kernel_rfl, ?_⟩) ⟨trivial, fun h => (by cases h)⟩ ?_
        rotate_left
        · (intro w hSw; obtain ⟨hSa, hSb⟩ := hSw; clear hSb; (try dsimp only at hSa); go_simp; try with_reducible rfl)
        (try simp only [Act.put, List.setIfInBounds_toArray, List.set_cons_zero, List.set_cons_succ])
        refine wpAnyN_take true (i := 5) (oi := ⟨some 27, _, _, _, _, _⟩) (v := ?_) rfl (by kernel_rfl) (by kernel_rfl) (by kernel_rfl) (fun _ _ _ h => h) (Or.inl ⟨by kernel_rfl, ?_⟩) ⟨trivial, fun _ => m1⟩ ?_
        rotate_left
        · (intro w hSw; obtain ⟨hSa, hSb⟩ := hSw; have hSc := hSb rfl; clear hSb; (try dsimp only at hSa hSc); go_simp; try with_reducible rfl)
        (try simp only [Act.put, List.setIfInBounds_toArray, List.set_cons_zero, List.set_cons_succ])
        refine wpAnyN_take false (i := 6) (oi := ⟨some 28, _, _, _, _, _⟩) (v := ?_) rfl (by kernel_rfl) (by kernel_rfl) (by kernel_rfl) (fun _ _ _ h => h) (Or.inl ⟨by kernel_rfl, ?_⟩) ⟨trivial, fun h => (by cases h)⟩ ?_
        rotate_left
        · (intro w hSw; obtain ⟨hSa, hSb⟩ := hSw; clear hSb; (try dsimp only at hSa); go_simp; try with_reducible rfl)
        (try simp only [Act.put, List.setIfInBounds_toArray, List.set_cons_zero, List.set_cons_succ])
        refine wpAnyN_take false (i := 10) (oi := ⟨some 32, _, _, _, _, _⟩) (v := ?_) rfl (by kernel_rfl) (by kernel_rfl) (by kernel_rfl) (fun _ _ _ h => h) (Or.inl ⟨by kernel_rfl, ?_⟩) ⟨trivial, fun h => (by cases h)⟩ ?_
        rotate_left
        · (intro w hSw; obtain ⟨hSa, hSb⟩ := hSw; clear hSb; (try dsimp only at hSa); go_simp; try with_reducible rfl)
        (try simp only [Act.put, List.setIfInBounds_toArray, List.set_cons_zero, List.set_cons_succ])
        refine wpAnyN_take false (i := 11) (oi := ⟨some 33, _, _, _, _, _⟩) (v := ?_) rfl (by kernel_rfl) (by kernel_rfl) (by kernel_rfl) (fun _ _ _ h => h) (Or.inl ⟨by kernel_rfl, ?_⟩) ⟨trivial, fun h => (by cases h)⟩ ?_
        rotate_left
        · (intro w hSw; obtain ⟨hSa, hSb⟩ := hSw; clear hSb; (try dsimp only at hSa); go_simp; try with_reducible rfl)
        (try simp only [Act.put, List.setIfInBounds_toArray, List.set_cons_zero, List.set_cons_succ])
        refine wpAnyN_step (i := 7) (by kernel_rfl) rfl (by kernel_rfl) ?_
        intro K' hK
        (try simp only [Act.put, List.setIfInBounds_toArray, List.set_cons_zero, List.set_cons_succ])
        obtain ⟨wq1, J, hwJ, hJ, hJl, hb1, hjb⟩ := box_any w3.drew #[.int .i64 (j : Int)] 3
        go_simp
        refine hK.out _ _ (trivial) (fun _ _ => (hb1.cell (p := ⟨M, 34 + k, none⟩) lM).trans m1) ?_
        clear hK K'
        (try simp only [Act.put, List.setIfInBounds_toArray, List.set_cons_zero, List.set_cons_succ])
        clear hwJ
        refine wpAnyN_step (i := 8) (by kernel_rfl) rfl (by kernel_rfl) ?_
        intro K' hK
        (try simp only [Act.put, List.setIfInBounds_toArray, List.set_cons_zero, List.set_cons_succ])
        go_simp
        have hjt : IntsAt wq1 (.slice (some ⟨J, 0, none⟩) 1 1) [(j : Int)] := ⟨_, _, rfl, (by show 1 ≤ 9223372036854775807; omega), fun _ => ⟨J, 0, rfl, hJl, fun j x hx => by
          rcases j with _ | j
          · have e : x = (j : Int) := by simpa using hx.symm
            subst e
            rw [cell_of_row wq1 J (0 + 0) _ _ _ hjb]; rfl
          · simp at hx⟩⟩
        go_at_call 60; refine (of_any [(j : Int)] _ wq1 hjt).mono ?_; rintro e wq2 ⟨rfl, rfl⟩
        rw [HOF.out]
        refine hK.out _ _ (trivial) (fun _ _ => (hb1.cell (p := ⟨M, 34 + k, none⟩) lM).trans m1) ?_
        clear hK K'
        (try simp only [Act.put, List.setIfInBounds_toArray, List.set_cons_zero, List.set_cons_succ])
        have z0 := (hb1.cell (p := ⟨M, 34 + k, none⟩) lM).trans m1
        have z1 : wq1.frozen? ⟨M, 34 + k, none⟩ = false := block_free (keep_block HBX.out ((Below.refl _ _).drew.trans hb1))
        refine wpAnyN_take false (i := 9) (oi := ⟨some 31, _, _, _, _, _⟩) (v := ?_) rfl (by kernel_rfl) (by kernel_rfl) (by kernel_rfl) (fun _ _ _ h => h) (Or.inl ⟨by kernel_rfl, ?_⟩) ⟨trivial, fun h => (by cases h)⟩ ?_
        rotate_left
        · (intro w hSw; obtain ⟨hSa, hSb⟩ := hSw; clear hSb; (try dsimp only at hSa); go_simp; try with_reducible rfl)
        (try simp only [Act.put, List.setIfInBounds_toArray, List.set_cons_zero, List.set_cons_succ])
        refine wpAnyN_take false (i := 12) (oi := ⟨some 34, _, _, _, _, _⟩) (v := ?_) rfl (by kernel_rfl) (by kernel_rfl) (by kernel_rfl) (fun _ _ _ h => h) (Or.inl ⟨by kernel_rfl, ?_⟩) ⟨trivial, fun h => (by cases h)⟩ ?_
        rotate_left
        · (intro w hSw; obtain ⟨hSa, hSb⟩ := hSw; clear hSb; (try dsimp only at hSa); go_simp; try with_reducible rfl)
        (try simp only [Act.put, List.setIfInBounds_toArray, List.set_cons_zero, List.set_cons_succ])
        refine wpAnyN_step (i := 13) (by kernel_rfl) rfl (by kernel_rfl) ?_
        intro K' hK
        (try simp only [Act.put, List.setIfInBounds_toArray, List.set_cons_zero, List.set_cons_succ])
        go_simp
        refine hK.out _ _ (trivial) (fun h => by cases h) ?_
        clear hK K'
        (try simp only [Act.put, List.setIfInBounds_toArray, List.set_cons_zero, List.set_cons_succ])
        refine wpAnyN_done (by kernel_rfl) ?_
        have HME := Lib.hid (HM3.out.setOwn ((Below.refl _ _).drew.trans hb1) hk R)
        obtain ⟨wS, hwS⟩ : ∃ wS, wq1.setCell ⟨M, 34 + k, none⟩ (.int .u64 (R : Int)) = wS := ⟨_, rfl⟩
        rw [hwS] at HME ⊢
        clear hwS hb1 hjb hJ hJl hjt z0 z1 m1 hand
        go_wp2_with fail
        go_ret
        exact ⟨_, _, HME.out, .inl ⟨rfl, HMV.out⟩⟩
      · rw [how] at hm3
        have HM3 := Lib.hid (HMR.out.trans hm3)
        have HA3 : Hid (Apart (fun b => b = M) w2 w3) := Lib.hid (HAP.out.trans hm3.apart fun _ _ e => e)
        have HV3 := Lib.hid (HVN.out.trans hv)
        have HS3 : Hid (∀ a, a < i + 1 → ∀ j : Nat, xs[a]? = some (j : Int) → AllTried g j T2) := Lib.hid (fun a ha j' hj' => by
          by_cases e : a = i
          · subst e
            rw [HXI.out] at hj'
            have : j = j' := by have h9 : (j : Int) = (j' : Int) := by simpa using hj'
                                omega
            subst this
            exact hs
          · exact (HAL.out a (by omega) j' hj').mono hv.more)
        clear hm3 hv hs c0 how
        go_wp2_with fail
        go_roundg (nx - (i + 1))
        case measure => have := HG.out; omega
        case rel => exact ⟨i + 1, T2, by omega, rfl, by go_num, HM3, HA3, HV3, HS3⟩
    · have hin : i = nx := by omega
      subst hin
      have HFIN : Hid (∀ j, (ow k).testBit j = true → AllTried g j T') := Lib.hid (fun j hj => by
        obtain ⟨a, ha⟩ := HX2.out j hj
        have : a < i := by have := (List.getElem?_eq_some_iff.1 ha).1; rw [HNX.out] at this; exact this
        exact HAL.out a this j ha)
      go_wp2_with fail
      go_ret
      exact ⟨_, _, HMR.out, .inr ⟨rfl, rfl, HVN.out, HFIN.out⟩⟩

theorem YieldPost.bool {W W' : World} {M : Nat} {F : Int} {v : Value} {g r ow : Nat → Nat} {T : Nat → Bool} {k : Nat} {e : Ending} (h : YieldPost W M F v g r ow T k e W') :
    ∃ ow' T' b, e = .returned (.bool b) ∧ MAt W W' M F v g r ow' T' ∧ ((b = true ∧ Moved g r T k ow ow') ∨ (b = false ∧ ow' = ow ∧ Vain g r ow T T' ∧ ∀ j, (ow k).testBit j = true → AllTried g j T')) := by
  obtain ⟨ow', T', h1, ⟨h2, h3⟩ | ⟨h2, h3⟩⟩ := h
  · exact ⟨ow', T', true, h2, h1, .inl ⟨rfl, h3⟩⟩
  · exact ⟨ow', T', false, h2, h1, .inr ⟨rfl, h3⟩⟩

set_option maxRecDepth 100000 in
set_option maxHeartbeats 16000000 in
theorem assign_of (W0 : World) (M : Nat) (F : Int) (A : Option Addr) (nc cA : Nat) (g r : Nat → Nat) (cs : List Int) (hlen : cs.length = nc) (h16 : nc ≤ 16) (hcs : ∀ W', Apart (fun b => b = M) W0 W' → IntsAt W' (.slice A nc cA) cs)
    (hct : ∀ (i : Nat) (x : Int), cs[i]? = some x → ∃ c : Nat, c < 16 ∧ x = (c : Int)) (hall : ∀ c : Nat, c < 16 → ∀ t, (g c).testBit t = true → ∃ i : Nat, cs[i]? = some (c : Int)) (hgl : ∀ c, c < 16 → g c < 18446744073709551616) (hrl : ∀ c, c < 16 → r c ≤ 64) (n : Nat)
    (hY : ∀ (ow : Nat → Nat) (T : Nat → Bool) (k : Nat) (W : World), untr T < n → k < 16 → T k = true → OwnOk g r ow → (∀ j, ownN ow j ≤ 1) → MAt W0 W M F (.slice A nc cA) g r ow T →
      Calls Try.prog 78 #[.pointer (some ⟨M, 0, none⟩), .int .i64 (k : Int)] W (YieldPost W M F (.slice A nc cA) g r ow T k)) :
    AssignC W0 M F (.slice A nc cA) g r n := by
  intro ow T t W hn ht hok hone hfresh hm
  have mixed : Try.prog.follows .mixedOrders = true := by kernel_rfl
  have HY := Lib.hid hY
  have HN := Lib.hid hn
  have HLEN := Lib.hid hlen
  have HCS := Lib.hid hcs
  have HCT := Lib.hid hct
  have HALL := Lib.hid hall
  have HGL := Lib.hid hgl
  have HRL := Lib.hid hrl
  have HOK := Lib.hid hok
  have HONE := Lib.hid hone
  have HFH := Lib.hid hfresh
  have HM := Lib.hid hm
  have ht0 : (0 : Int) ≤ (t : Int) := by omega
  have ht64 : (t : Int) < 64 := by omega
  have k1 := hm.box.cores
  obtain ⟨t1, ht1⟩ : ∃ t1, withN 0 t = t1 := ⟨_, rfl⟩
  have HT1 := Lib.hid ht1
  have HT1L : Hid (t1 < 18446744073709551616) := Lib.hid (by rw [← ht1]; exact withN_lt (by decide) ht)
  have HOF : Hid (ofI [(t : Int)] = t1) := Lib.hid (by rw [of_one ht, ht1])
  clear hY hn hlen hcs hct hall hgl hrl hok hone hfresh hm ht1
  go_enter Try.func53, Try.ntmps53
  go_wp2_with fail
  clear k1
  go_loopg [6, 13] nc (fun gg s6 s13 wr => ∃ (i : Nat) (T' : Nat → Bool), i ≤ nc ∧ gg = nc - i ∧ s13 = .int .i64 i ∧ Hid (MAt W wr M F (.slice A nc cA) g r ow T') ∧ Hid (Vain g r ow T T') ∧ Hid (∀ a, a < i → ∀ c : Nat, cs[a]? = some (c : Int) → (g c).testBit t = true → T' c = true))
  case atStart => exact ⟨0, T, Nat.zero_le _, rfl, rfl, Lib.hid HM.out.self, Lib.hid (Vain.refl _ _ _ _), Lib.hid (fun a h => absurd h (Nat.not_lt_zero _))⟩
  case round =>
    obtain ⟨i, T', hi, hgg, rfl, HMR, HVN, HAL⟩ := hrel
    have HG := Lib.hid hgg
    clear hgg
    by_cases hlt : i < nc
    · have hltz : (i : Int) < (nc : Int) := by omega
      have hi0 : (0 : Int) ≤ (i : Int) := by omega
      obtain ⟨x, hx⟩ : ∃ x, cs[i]? = some x := ⟨_, List.getElem?_eq_getElem (by rw [HLEN.out]; exact hlt)⟩
      obtain ⟨c, hc, rfl⟩ := HCT.out i x hx
      have hc0 : (0 : Int) ≤ (c : Int) := by omega
      have hc16 : (c : Int) < 16 := by omega
      obtain ⟨A', c', hA', hlm, hcell⟩ := HCS.out wr (HM.out.trans HMR.out).apart
      obtain ⟨b, off, hAb, hbl, hcl⟩ := hcell (by rw [HLEN.out]; omega)
      have e0 := hcl i _ hx
      rw [hAb] at hA'
      have hA2 : A = some ⟨b, off, none⟩ := by simp only [Value.slice.injEq] at hA'; exact hA'.1
      rw [hA2]
      have HXI := Lib.hid hx
      have hnext : ∀ T2 : Nat → Bool, (∀ d, d < 16 → T' d = true → T2 d = true) → ((g c).testBit t = true → T2 c = true) → (∀ a, a < i + 1 → ∀ d : Nat, cs[a]? = some (d : Int) → (g d).testBit t = true → T2 d = true) := fun T2 hmo hcc a ha d hd hg => by
        by_cases e : a = i
        · subst e
          have h9 := HXI.out
          rw [hd] at h9
          have h8 : (d : Int) = (c : Int) := by simpa using h9
          have : d = c := by omega
          subst this
          exact hcc hg
        · obtain ⟨d', hd', e'⟩ := HCT.out a _ hd
          have : d = d' := by omega
          exact hmo d (by omega) (HAL.out a (by omega) d hd hg)
      have HNEXT := Lib.hid hnext
      have e1 := HMR.out.box.tried hc
      have e2 := HMR.out.box.gap hc
      have e3 := (block_free HMR.out.box : wr.frozen? ⟨M, 50 + c, none⟩ = false)
      have HHS := Lib.hid (fun W => has_any (g c) (t : Int) W (HGL.out c hc))
      rw [hasB_nat ht] at HHS
      obtain ⟨b1, hb1⟩ : ∃ b1, T' c = b1 := ⟨_, rfl⟩
      have HB1 := Lib.hid hb1
      rw [hb1] at e1
      clear hcell hcl hA' hAb hlm hx hnext hb1
      cases b1 with
      | true =>
        clear HHS
        go_wp2_with fail
        rw [← hA2]
        go_roundg (nc - (i + 1))
        case measure => have := HG.out; omega
        case rel => exact ⟨i + 1, T', by omega, rfl, by go_num, HMR, HVN, Lib.hid (HNEXT.out T' (fun _ _ h => h) (fun _ => HB1.out))⟩
      | false =>
        obtain ⟨b2, hb2⟩ : ∃ b2, (g c).testBit t = b2 := ⟨_, rfl⟩
        have HB2 := Lib.hid hb2
        rw [hb2] at HHS
        clear hb2
        cases b2 with
        | false =>
          go_wp2_with (go_at_call 77; refine (HHS.out _).mono ?_; rintro e w' ⟨rfl, rfl⟩)
          rw [← hA2]
          go_roundg (nc - (i + 1))
          case measure => have := HG.out; omega
          case rel => exact ⟨i + 1, T', by omega, rfl, by go_num, HMR, HVN, Lib.hid (HNEXT.out T' (fun _ _ h => h) (fun h => absurd (HB2.out.symm.trans h) (by decide)))⟩
        | true =>
          go_wp2_with (go_at_call 77; refine (HHS.out _).mono ?_; rintro e w' ⟨rfl, rfl⟩)
          obtain ⟨wB, hwB⟩ : ∃ wB, wr.setCell ⟨M, 50 + c, none⟩ (.bool true) = wB := ⟨_, rfl⟩
          have HMB : Hid (MAt W wB M F (.slice A nc cA) g r ow (setT1 T' c)) := Lib.hid (by rw [← hwB]; exact HMR.out.setTried hc)
          rw [hwB]
          have HMD : Hid (MAt W wB.drew M F (.slice A nc cA) g r ow (setT1 T' c)) := Lib.hid (HMB.out.keep (Below.refl _ _).drew)
          have HTF : Hid (T c = false) := Lib.hid (by
            rw [← Bool.not_eq_true]
            intro h
            have := HVN.out.more c hc h
            rw [HB1.out] at this
            cases this)
          have HTM : Hid (∀ d, d < 16 → T d = true → setT1 T' c d = true) := Lib.hid (fun d hd h => setT1_old (HVN.out.more d hd h))
          have m1 := HMB.out.box.own hc
          have m2 := HMB.out.box.room hc
          obtain ⟨O, hO⟩ : ∃ O, ow c = O := ⟨_, rfl⟩
          obtain ⟨Rc, hRc⟩ : ∃ Rc, r c = Rc := ⟨_, rfl⟩
          obtain ⟨C, hC⟩ : ∃ C, cnt O = C := ⟨_, rfl⟩
          rw [hO] at m1
          rw [hRc] at m2
          have HO := Lib.hid hO
          have HRC := Lib.hid hRc
          have HCC := Lib.hid hC
          have HOL : Hid (O < 18446744073709551616) := Lib.hid (by rw [← hO]; exact HOK.out.lt c hc)
          have HCN := Lib.hid (fun W => count_any O W HOL.out)
          rw [hC] at HCN
          clear hwB hO hRc hC e0 e1 e2 e3 HHS
          by_cases hcr : C < Rc
          · have hd : decide ((C : Int) < (Rc : Int)) = true := decide_eq_true (by omega)
            go_wp2_with fail
            refine wp_region_held_drew (S := fun w' => w'.cell? ⟨M, 34 + c, none⟩ = some (.int .u64 (O : Int)) ∧ w'.cell? ⟨M, 18 + c, none⟩ = some (.int .i64 (Rc : Int))) (by kernel_rfl) ?_ (fun hHeld => ?_)
            · exact ⟨m1, m2⟩
            refine wpAnyH_take (i := 0) (oi := ⟨some 40, _, _, _, _, _⟩) (v := ?_) rfl (by kernel_rfl) (by kernel_rfl) (by kernel_rfl) (fun _ _ _ h => h) (Or.inl ⟨by kernel_rfl, ?_⟩) (by assumption) ?_
            rotate_left
            · (intro w hSw; (try dsimp only at hSw); go_simp; try with_reducible rfl)
            (try simp only [Act.put, List.setIfInBounds_toArray, List.set_cons_zero, List.set_cons_succ])
            refine wpAnyH_take (i := 1) (oi := ⟨some 41, _, _, _, _, _⟩) (v := ?_) rfl (by kernel_rfl) (by kernel_rfl) (by kernel_rfl) (fun _ _ _ h => h) (Or.inl ⟨by kernel_rfl, ?_⟩) (by assumption) ?_
            rotate_left
            · (intro w hSw; (try dsimp only at hSw); go_simp; try with_reducible rfl)
            (try simp only [Act.put, List.setIfInBounds_toArray, List.set_cons_zero, List.set_cons_succ])
            refine wpAnyH_take (i := 2) (oi := ⟨some 42, _, _, _, _, _⟩) (v := ?_) rfl (by kernel_rfl) (by kernel_rfl) (by kernel_rfl) (fun _ _ _ h => h) (Or.inl ⟨by kernel_rfl, ?_⟩) (by assumption) ?_
            rotate_left
            · (intro w hSw; (try dsimp only at hSw); go_simp; try with_reducible rfl)
            (try simp only [Act.put, List.setIfInBounds_toArray, List.set_cons_zero, List.set_cons_succ])
            refine wpAnyH_take (i := 3) (oi := ⟨some 43, _, _, _, _, _⟩) (v := ?_) rfl (by kernel_rfl) (by kernel_rfl) (by kernel_rfl) (fun _ _ _ h => h) (Or.inl ⟨by kernel_rfl, ?_⟩) (by assumption) ?_
            rotate_left
            · (intro w hSw; (try dsimp only at hSw); go_simp; try with_reducible rfl)
            (try simp only [Act.put, List.setIfInBounds_toArray, List.set_cons_zero, List.set_cons_succ])
            refine wpAnyH_take (i := 4) (oi := ⟨some 44, _, _, _, _, _⟩) (v := ?_) rfl (by kernel_rfl) (by kernel_rfl) (by kernel_rfl) (fun _ _ _ h => h) (Or.inl ⟨by kernel_rfl, ?_⟩) (by assumption) ?_
            rotate_left
            · (intro w hSw; (try dsimp only at hSw); go_simp; try with_reducible rfl)
            (try simp only [Act.put, List.setIfInBounds_toArray, List.set_cons_zero, List.set_cons_succ])
            refine wpAnyH_take (i := 5) (oi := ⟨some 45, _, _, _, _, _⟩) (v := ?_) rfl (by kernel_rfl) (by kernel_rfl) (by kernel_rfl) (fun _ _ _ h => h) (Or.inl ⟨by kernel_rfl, ?_⟩) (by assumption) ?_
            rotate_left
            · (intro w hSw; (try dsimp only at hSw); go_simp; try with_reducible rfl)
            (try simp only [Act.put, List.setIfInBounds_toArray, List.set_cons_zero, List.set_cons_succ])
            refine wpAnyH_take (i := 7) (oi := ⟨some 47, _, _, _, _, _⟩) (v := ?_) rfl (by kernel_rfl) (by kernel_rfl) (by kernel_rfl) (fun _ _ _ h => h) (Or.inl ⟨by kernel_rfl, ?_⟩) (by assumption) ?_
            rotate_left
            · (intro w hSw; (try dsimp only at hSw); go_simp; try with_reducible rfl)
            (try simp only [Act.put, List.setIfInBounds_toArray, List.set_cons_zero, List.set_cons_succ])
            refine wpAnyH_take (i := 8) (oi := ⟨some 48, _, _, _, _, _⟩) (v := ?_) rfl (by kernel_rfl) (by kernel_rfl) (by kernel_rfl) (fun _ _ _ h => h) (Or.inl ⟨by kernel_rfl, ?_⟩) (by assumption) ?_
            rotate_left
            · (intro w hSw; (try dsimp only at hSw); go_simp; try with_reducible rfl)
            (try simp only [Act.put, List.setIfInBounds_toArray, List.set_cons_zero, List.set_cons_succ])
            refine wpAnyH_take (i := 9) (oi := ⟨some 49, _, _, _, _, _⟩) (v := ?_) rfl (by kernel_rfl) (by kernel_rfl) (by kernel_rfl) (fun _ _ _ h => h) (Or.inl ⟨by kernel_rfl, ?_⟩) (by assumption) ?_
            rotate_left
            · (intro w hSw; (try dsimp only at hSw); go_simp; try with_reducible rfl)
            (try simp only [Act.put, List.setIfInBounds_toArray, List.set_cons_zero, List.set_cons_succ])
            refine wpAnyH_take (i := 10) (oi := ⟨some 50, _, _, _, _, _⟩) (v := ?_) rfl (by kernel_rfl) (by kernel_rfl) (by kernel_rfl) (fun _ _ _ h => h) (Or.inl ⟨by kernel_rfl, ?_⟩) (by assumption) ?_
            rotate_left
            · (intro w hSw; (try dsimp only at hSw); go_simp; try with_reducible rfl)
            (try simp only [Act.put, List.setIfInBounds_toArray, List.set_cons_zero, List.set_cons_succ])
            refine wpAnyH_take (i := 11) (oi := ⟨some 51, _, _, _, _, _⟩) (v := ?_) rfl (by kernel_rfl) (by kernel_rfl) (by kernel_rfl) (fun _ _ _ h => h) (Or.inl ⟨by kernel_rfl, ?_⟩) (by assumption) ?_
            rotate_left
            · (intro w hSw; (try dsimp only at hSw); go_simp; try with_reducible rfl)
            (try simp only [Act.put, List.setIfInBounds_toArray, List.set_cons_zero, List.set_cons_succ])
            refine wpAnyH_take (i := 12) (oi := ⟨some 52, _, _, _, _, _⟩) (v := ?_) rfl (by kernel_rfl) (by kernel_rfl) (by kernel_rfl) (fun _ _ _ h => h) (Or.inl ⟨by kernel_rfl, ?_⟩) (by assumption) ?_
            rotate_left
            · (intro w hSw; (try dsimp only at hSw); go_simp; try with_reducible rfl)
            (try simp only [Act.put, List.setIfInBounds_toArray, List.set_cons_zero, List.set_cons_succ])
            refine wpAnyH_take (i := 13) (oi := ⟨some 53, _, _, _, _, _⟩) (v := ?_) rfl (by kernel_rfl) (by kernel_rfl) (by kernel_rfl) (fun _ _ _ h => h) (Or.inl ⟨by kernel_rfl, ?_⟩) (by assumption) ?_
            rotate_left
            · (intro w hSw; (try dsimp only at hSw); go_simp; try with_reducible rfl)
            (try simp only [Act.put, List.setIfInBounds_toArray, List.set_cons_zero, List.set_cons_succ])
            refine wpAnyH_ready (rs := [6]) (by kernel_rfl) (by simp) ?_
            refine AllReadyH.cons (o := ⟨some 46, _, _, _, _, _⟩) rfl (fun K hK => ?_) AllReadyH.nil
            rw [if_pos (by kernel_rfl)]
            go_simp
            go_at_call 74; refine (HCN.out _).mono ?_; rintro e wz ⟨rfl, rfl⟩
            refine hK.out _ _ ?_ (fun hHeld => ?_)
            · exact ⟨m1, m2⟩
            clear hK K
            (try simp only [Act.put, List.setIfInBounds_toArray, List.set_cons_zero, List.set_cons_succ])
            refine wpAnyH_take (i := 14) (oi := ⟨some 54, _, _, _, _, _⟩) (v := ?_) rfl (by kernel_rfl) (by kernel_rfl) (by kernel_rfl) (fun _ _ _ h => h) (Or.inl ⟨by kernel_rfl, ?_⟩) (by assumption) ?_
            rotate_left
            · (intro w hSw; (try dsimp only at hSw); go_simp; try with_reducible rfl)
            (try simp only [Act.put, List.setIfInBounds_toArray, List.set_cons_zero, List.set_cons_succ])
            refine wpAnyH_take (i := 15) (oi := ⟨some 55, _, _, _, _, _⟩) (v := ?_) rfl (by kernel_rfl) (by kernel_rfl) (by kernel_rfl) (fun _ _ _ h => h) (Or.inl ⟨by kernel_rfl, ?_⟩) (by assumption) ?_
            rotate_left
            · (intro w hSw; (try dsimp only at hSw); go_simp; try with_reducible rfl)
            (try simp only [Act.put, List.setIfInBounds_toArray, List.set_cons_zero, List.set_cons_succ])
            refine wpAnyH_take (i := 16) (oi := ⟨some 56, _, _, _, _, _⟩) (v := undef) rfl (by kernel_rfl) (by kernel_rfl) (by kernel_rfl) (fun _ _ _ h => h) (Or.inr ⟨by kernel_rfl, rfl⟩) (by assumption) ?_
            (try simp only [Act.put, List.setIfInBounds_toArray, List.set_cons_zero, List.set_cons_succ])
            refine wpAnyH_take (i := 17) (oi := ⟨some 57, _, _, _, _, _⟩) (v := undef) rfl (by kernel_rfl) (by kernel_rfl) (by kernel_rfl) (fun _ _ _ h => h) (Or.inr ⟨by kernel_rfl, rfl⟩) (by assumption) ?_
            (try simp only [Act.put, List.setIfInBounds_toArray, List.set_cons_zero, List.set_cons_succ])
            refine wpAnyH_take (i := 18) (oi := ⟨some 58, _, _, _, _, _⟩) (v := undef) rfl (by kernel_rfl) (by kernel_rfl) (by kernel_rfl) (fun _ _ _ h => h) (Or.inr ⟨by kernel_rfl, rfl⟩) (by assumption) ?_
            (try simp only [Act.put, List.setIfInBounds_toArray, List.set_cons_zero, List.set_cons_succ])
            refine wpAnyH_take (i := 19) (oi := ⟨some 59, _, _, _, _, _⟩) (v := ?_) rfl (by kernel_rfl) (by kernel_rfl) (by kernel_rfl) (fun _ _ _ h => h) (Or.inl ⟨by kernel_rfl, ?_⟩) (by assumption) ?_
            rotate_left
            · (intro w hSw; (try dsimp only at hSw); go_simp; try with_reducible rfl)
            (try simp only [Act.put, List.setIfInBounds_toArray, List.set_cons_zero, List.set_cons_succ])
            refine wpAnyH_done (by kernel_rfl) ?_ _
            clear hHeld
            obtain ⟨wC, hwC⟩ : ∃ wC, wB.drew = wC := ⟨_, rfl⟩
            rw [hwC] at HMD ⊢
            have m3 := HMD.out.box.own hc
            rw [HO.out] at m3
            obtain ⟨O2, hO2⟩ : ∃ O2, O = O2 := ⟨_, rfl⟩
            rw [hO2] at m3
            have HO2 : Hid (ow c = O2) := Lib.hid (by rw [HO.out, hO2])
            have HO2L : Hid (O2 < 18446744073709551616) := Lib.hid (by rw [← hO2]; exact HOL.out)
            clear m1 m2 hwC hO2
            have HBX := Lib.hid HMD.out.box
            have lM : M < wC.heap.size := heap_lt HMD.out.box
            obtain ⟨R, hR⟩ : ∃ R, O2 ||| t1 = R := ⟨_, rfl⟩
            have hor : bits BinOp.or IntKind.u64 (O2 : Int) (t1 : Int) = (R : Int) := by rw [bits_or_u64_nat O2 t1 HO2L.out HT1L.out, hR]
            have HFD : Hid (Found g r T t ow (putO ow c R)) := Lib.hid (by
              rw [← hR, ← HT1.out, or_tick, ← HO2.out]
              exact found_room HOK.out hc ht HTF.out HB2.out (HFH.out c hc HTF.out) (by rw [HO.out, HCC.out, HRC.out]; exact hcr))
            clear hR
            go_wp2_with fail
            refine wp_region_N (S1 := fun w' => True) (S2 := fun w' => w'.cell? ⟨M, 34 + c, none⟩ = some (.int .u64 (O2 : Int))) (N := fun i => i != 13) (by kernel_rfl) ?_
            change wpAnyN _ _ _ _ _ _ _ 14 (Array.replicate 14 false) _ _
            refine wpAnyN_take false (i := 0) (oi := ⟨some 60, _, _, _, _, _⟩) (v := ?_) rfl (by kernel_rfl) (by kernel_rfl) (by kernel_rfl) (fun _ _ _ h => h) (Or.inl ⟨by kernel_rfl, ?_⟩) ⟨trivial, fun h => (by cases h)⟩ ?_
            rotate_left
            · (intro w hSw; obtain ⟨hSa, hSb⟩ := hSw; clear hSb; (try dsimp only at hSa); go_simp; try with_reducible rfl)
            (try simp only [Act.put, List.setIfInBounds_toArray, List.set_cons_zero, List.set_cons_succ])
            refine wpAnyN_take false (i := 1) (oi := ⟨some 61, _, _, _, _, _⟩) (v := ?_) rfl (by kernel_rfl) (by kernel_rfl) (by kernel_rfl) (fun _ _ _ h => h) (Or.inl ⟨by kernel_rfl, ?_⟩) ⟨trivial, fun h => (by cases h)⟩ ?_
            rotate_left
            · (intro w hSw; obtain ⟨hSa, hSb⟩ := hSw; clear hSb; (try dsimp only at hSa); go_simp; try with_reducible rfl)
            (try simp only [Act.put, List.setIfInBounds_toArray, List.set_cons_zero, List.set_cons_succ])
            refine wpAnyN_take false (i := 2) (oi := ⟨some 62, _, _, _, _, _⟩) (v := ?_) rfl (by kernel_rfl) (by kernel_rfl) (by kernel_rfl) (fun _ _ _ h => h) (Or.inl ⟨by kernel_rfl, ?_⟩) ⟨trivial, fun h => (by cases h)⟩ ?_
            rotate_left
            · (intro w hSw; obtain ⟨hSa, hSb⟩ := hSw; clear hSb; (try dsimp only at hSa); go_simp; try with_reducible rfl)
            (try simp only [Act.put, List.setIfInBounds_toArray, List.set_cons_zero, List.set_cons_succ])
            refine wpAnyN_take false (i := 3) (oi := ⟨some 63, _, _, _, _, _⟩) (v := ?_) rfl (by kernel_rfl) (by kernel_rfl) (by kernel_rfl) (fun _ _ _ h => h) (Or.inl ⟨by kernel_rfl, ?_⟩) ⟨trivial, fun h => (by cases h)⟩ ?_
            rotate_left
            · (intro w hSw; obtain ⟨hSa, hSb⟩ := hSw; clear hSb; (try dsimp only at hSa); go_simp; try with_reducible rfl)
            (try simp only [Act.put, List.setIfInBounds_toArray, List.set_cons_zero, List.set_cons_succ])
            refine wpAnyN_take false (i := 4) (oi := ⟨some 64, _, _, _, _, _⟩) (v := ?_) rfl (by kernel_rfl) (by kernel_rfl) (by kernel_rfl) (fun _ _ _ h => h) (Or.inl ⟨by kernel_rfl, ?_⟩) ⟨trivial, fun h => (by cases h)⟩ ?_
            rotate_left
            · (intro w hSw; obtain ⟨hSa, hSb⟩ := hSw; clear hSb; (try dsimp only at hSa); go_simp; try with_reducible rfl)
            (try simp only [Act.put, List.setIfInBounds_toArray, List.set_cons_zero, List.set_cons_succ])
            refine wpAnyN_take true (i := 5) (oi := ⟨some 65, _, _, _, _, _⟩) (v := ?_) rfl (by kernel_rfl) (by kernel_rfl) (by kernel_rfl) (fun _ _ _ h => h) (Or.inl ⟨by kernel_rfl, ?_⟩) ⟨trivial, fun _ => m3⟩ ?_
            rotate_left
            · (intro w hSw; obtain ⟨hSa, hSb⟩ := hSw; have hSc := hSb rfl; clear hSb; (try dsimp only at hSa hSc); go_simp; try with_reducible rfl)
            (try simp only [Act.put, List.setIfInBounds_toArray, List.set_cons_zero, List.set_cons_succ])
            refine wpAnyN_take false (i := 6) (oi := ⟨some 66, _, _, _, _, _⟩) (v := ?_) rfl (by kernel_rfl) (by kernel_rfl) (by kernel_rfl) (fun _ _ _ h => h) (Or.inl ⟨by kernel_rfl, ?_⟩) ⟨trivial, fun h => (by cases h)⟩ ?_
            rotate_left
            · (intro w hSw; obtain ⟨hSa, hSb⟩ := hSw; clear hSb; (try dsimp only at hSa); go_simp; try with_reducible rfl)
            (try simp only [Act.put, List.setIfInBounds_toArray, List.set_cons_zero, List.set_cons_succ])
            refine wpAnyN_take false (i := 10) (oi := ⟨some 70, _, _, _, _, _⟩) (v := ?_) rfl (by kernel_rfl) (by kernel_rfl) (by kernel_rfl) (fun _ _ _ h => h) (Or.inl ⟨by kernel_rfl, ?_⟩) ⟨trivial, fun h => (by cases h)⟩ ?_
            rotate_left
            · (intro w hSw; obtain ⟨hSa, hSb⟩ := hSw; clear hSb; (try dsimp only at hSa); go_simp; try with_reducible rfl)
            (try simp only [Act.put, List.setIfInBounds_toArray, List.set_cons_zero, List.set_cons_succ])
            refine wpAnyN_take false (i := 11) (oi := ⟨some 71, _, _, _, _, _⟩) (v := ?_) rfl (by kernel_rfl) (by kernel_rfl) (by kernel_rfl) (fun _ _ _ h => h) (Or.inl ⟨by kernel_rfl, ?_⟩) ⟨trivial, fun h => (by cases h)⟩ ?_
            rotate_left
            · (intro w hSw; obtain ⟨hSa, hSb⟩ := hSw; clear hSb; (try dsimp only at hSa); go_simp; try with_reducible rfl)
            (try simp only [Act.put, List.setIfInBounds_toArray, List.set_cons_zero, List.set_cons_succ])
            refine wpAnyN_step (i := 7) (by kernel_rfl) rfl (by kernel_rfl) ?_
            intro K' hK
            (try simp only [Act.put, List.setIfInBounds_toArray, List.set_cons_zero, List.set_cons_succ])
            obtain ⟨wq1, J, hwJ, hJ, hJl, hb1, hjb⟩ := box_any wC.drew #[.int .i64 (t : Int)] 3
            go_simp
            refine hK.out _ _ (trivial) (fun _ _ => (hb1.cell (p := ⟨M, 34 + c, none⟩) lM).trans m3) ?_
            clear hK K'
            (try simp only [Act.put, List.setIfInBounds_toArray, List.set_cons_zero, List.set_cons_succ])
            clear hwJ
            refine wpAnyN_step (i := 8) (by kernel_rfl) rfl (by kernel_rfl) ?_
            intro K' hK
            (try simp only [Act.put, List.setIfInBounds_toArray, List.set_cons_zero, List.set_cons_succ])
            go_simp
            have hjt : IntsAt wq1 (.slice (some ⟨J, 0, none⟩) 1 1) [(t : Int)] := ⟨_, _, rfl, (by show 1 ≤ 9223372036854775807; omega), fun _ => ⟨J, 0, rfl, hJl, fun j x hx => by
              rcases j with _ | j
              · have e : x = (t : Int) := by simpa using hx.symm
                subst e
                rw [cell_of_row wq1 J (0 + 0) _ _ _ hjb]; rfl
              · simp at hx⟩⟩
            go_at_call 60; refine (of_any [(t : Int)] _ wq1 hjt).mono ?_; rintro e wq2 ⟨rfl, rfl⟩
            rw [HOF.out]
            refine hK.out _ _ (trivial) (fun _ _ => (hb1.cell (p := ⟨M, 34 + c, none⟩) lM).trans m3) ?_
            clear hK K'
            (try simp only [Act.put, List.setIfInBounds_toArray, List.set_cons_zero, List.set_cons_succ])
            have z0 := (hb1.cell (p := ⟨M, 34 + c, none⟩) lM).trans m3
            have z1 : wq1.frozen? ⟨M, 34 + c, none⟩ = false := block_free (keep_block HBX.out ((Below.refl _ _).drew.trans hb1))
            refine wpAnyN_take false (i := 9) (oi := ⟨some 69, _, _, _, _, _⟩) (v := ?_) rfl (by kernel_rfl) (by kernel_rfl) (by kernel_rfl) (fun _ _ _ h => h) (Or.inl ⟨by kernel_rfl, ?_⟩) ⟨trivial, fun h => (by cases h)⟩ ?_
            rotate_left
            · (intro w hSw; obtain ⟨hSa, hSb⟩ := hSw; clear hSb; (try dsimp only at hSa); go_simp; try with_reducible rfl)
            (try simp only [Act.put, List.setIfInBounds_toArray, List.set_cons_zero, List.set_cons_succ])
            refine wpAnyN_take false (i := 12) (oi := ⟨some 72, _, _, _, _, _⟩) (v := ?_) rfl (by kernel_rfl) (by kernel_rfl) (by kernel_rfl) (fun _ _ _ h => h) (Or.inl ⟨by kernel_rfl, ?_⟩) ⟨trivial, fun h => (by cases h)⟩ ?_
            rotate_left
            · (intro w hSw; obtain ⟨hSa, hSb⟩ := hSw; clear hSb; (try dsimp only at hSa); go_simp; try with_reducible rfl)
            (try simp only [Act.put, List.setIfInBounds_toArray, List.set_cons_zero, List.set_cons_succ])
            refine wpAnyN_step (i := 13) (by kernel_rfl) rfl (by kernel_rfl) ?_
            intro K' hK
            (try simp only [Act.put, List.setIfInBounds_toArray, List.set_cons_zero, List.set_cons_succ])
            go_simp
            refine hK.out _ _ (trivial) (fun h => by cases h) ?_
            clear hK K'
            (try simp only [Act.put, List.setIfInBounds_toArray, List.set_cons_zero, List.set_cons_succ])
            refine wpAnyN_done (by kernel_rfl) ?_
            have HME := Lib.hid (HMD.out.setOwn ((Below.refl _ _).drew.trans hb1) hc R)
            obtain ⟨wS, hwS⟩ : ∃ wS, wq1.setCell ⟨M, 34 + c, none⟩ (.int .u64 (R : Int)) = wS := ⟨_, rfl⟩
            rw [hwS] at HME ⊢
            clear hwS hb1 hjb hJ hJl hjt z0 z1 m3 hor
            go_wp2_with fail
            go_ret
            rw [hA2] at HME
            exact ⟨_, _, HME.out, .inl ⟨rfl, HFD.out⟩⟩
          · have hd : decide ((C : Int) < (Rc : Int)) = false := decide_eq_false (by omega)
            have HCY := Lib.hid (HY.out ow (setT1 T' c) c wB.drew (Nat.lt_of_lt_of_le (untr_set hc HB1.out) (Nat.le_trans (untr_mono HVN.out.more) HN.out)) hc setT1_self HOK.out HONE.out (HM.out.trans HMD.out))
            go_wp2_with fail
            refine wp_region_N (S1 := fun w' => True) (S2 := fun w' => w'.cell? ⟨M, 34 + c, none⟩ = some (.int .u64 (O : Int)) ∧ w'.cell? ⟨M, 18 + c, none⟩ = some (.int .i64 (Rc : Int))) (N := fun i => i != 18) (by kernel_rfl) ?_
            change wpAnyN _ _ _ _ _ _ _ 20 (Array.replicate 20 false) _ _
            refine wpAnyN_take false (i := 0) (oi := ⟨some 40, _, _, _, _, _⟩) (v := ?_) rfl (by kernel_rfl) (by kernel_rfl) (by kernel_rfl) (fun _ _ _ h => h) (Or.inl ⟨by kernel_rfl, ?_⟩) ⟨trivial, fun h => (by cases h)⟩ ?_
            rotate_left
            · (intro w hSw; obtain ⟨hSa, hSb⟩ := hSw; clear hSb; (try dsimp only at hSa); go_simp; try with_reducible rfl)
            (try simp only [Act.put, List.setIfInBounds_toArray, List.set_cons_zero, List.set_cons_succ])
            refine wpAnyN_take false (i := 1) (oi := ⟨some 41, _, _, _, _, _⟩) (v := ?_) rfl (by kernel_rfl) (by kernel_rfl) (by kernel_rfl) (fun _ _ _ h => h) (Or.inl ⟨by kernel_rfl, ?_⟩) ⟨trivial, fun h => (by cases h)⟩ ?_
            rotate_left
            · (intro w hSw; obtain ⟨hSa, hSb⟩ := hSw; clear hSb; (try dsimp only at hSa); go_simp; try with_reducible rfl)
            (try simp only [Act.put, List.setIfInBounds_toArray, List.set_cons_zero, List.set_cons_succ])
            refine wpAnyN_take false (i := 2) (oi := ⟨some 42, _, _, _, _, _⟩) (v := ?_) rfl (by kernel_rfl) (by kernel_rfl) (by kernel_rfl) (fun _ _ _ h => h) (Or.inl ⟨by kernel_rfl, ?_⟩) ⟨trivial, fun h => (by cases h)⟩ ?_
            rotate_left
            · (intro w hSw; obtain ⟨hSa, hSb⟩ := hSw; clear hSb; (try dsimp only at hSa); go_simp; try with_reducible rfl)
            (try simp only [Act.put, List.setIfInBounds_toArray, List.set_cons_zero, List.set_cons_succ])
            refine wpAnyN_take false (i := 3) (oi := ⟨some 43, _, _, _, _, _⟩) (v := ?_) rfl (by kernel_rfl) (by kernel_rfl) (by kernel_rfl) (fun _ _ _ h => h) (Or.inl ⟨by kernel_rfl, ?_⟩) ⟨trivial, fun h => (by cases h)⟩ ?_
            rotate_left
            · (intro w hSw; obtain ⟨hSa, hSb⟩ := hSw; clear hSb; (try dsimp only at hSa); go_simp; try with_reducible rfl)
            (try simp only [Act.put, List.setIfInBounds_toArray, List.set_cons_zero, List.set_cons_succ])
            refine wpAnyN_take false (i := 4) (oi := ⟨some 44, _, _, _, _, _⟩) (v := ?_) rfl (by kernel_rfl) (by kernel_rfl) (by kernel_rfl) (fun _ _ _ h => h) (Or.inl ⟨by kernel_rfl, ?_⟩) ⟨trivial, fun h => (by cases h)⟩ ?_
            rotate_left
            · (intro w hSw; obtain ⟨hSa, hSb⟩ := hSw; clear hSb; (try dsimp only at hSa); go_simp; try with_reducible rfl)
            (try simp only [Act.put, List.setIfInBounds_toArray, List.set_cons_zero, List.set_cons_succ])
            refine wpAnyN_takeD true [6, 14, 15, 16, 17, 18, 19] (i := 5) (oi := ⟨some 45, _, _, _, _, _⟩) (v := ?_) rfl (by kernel_rfl) (by kernel_rfl) (by kernel_rfl) (fun _ _ _ h => h) (Or.inl ⟨by kernel_rfl, ?_⟩) ⟨trivial, fun _ => ⟨m1, m2⟩⟩ ?_
            rotate_left
            · (intro w hSw; obtain ⟨hSa, hSb⟩ := hSw; have hSc := hSb rfl; clear hSb; (try dsimp only at hSa hSc); go_simp; try with_reducible rfl)
            (try simp only [Act.put, List.setIfInBounds_toArray, List.set_cons_zero, List.set_cons_succ])
            refine wpAnyN_take false (i := 7) (oi := ⟨some 47, _, _, _, _, _⟩) (v := ?_) rfl (by kernel_rfl) (by kernel_rfl) (by kernel_rfl) (fun _ _ _ h => h) (Or.inl ⟨by kernel_rfl, ?_⟩) ⟨trivial, fun h => (by cases h)⟩ ?_
            rotate_left
            · (intro w hSw; obtain ⟨hSa, hSb⟩ := hSw; clear hSb; (try dsimp only at hSa); go_simp; try with_reducible rfl)
            (try simp only [Act.put, List.setIfInBounds_toArray, List.set_cons_zero, List.set_cons_succ])
            refine wpAnyN_take false (i := 8) (oi := ⟨some 48, _, _, _, _, _⟩) (v := ?_) rfl (by kernel_rfl) (by kernel_rfl) (by kernel_rfl) (fun _ _ _ h => h) (Or.inl ⟨by kernel_rfl, ?_⟩) ⟨trivial, fun h => (by cases h)⟩ ?_
            rotate_left
            · (intro w hSw; obtain ⟨hSa, hSb⟩ := hSw; clear hSb; (try dsimp only at hSa); go_simp; try with_reducible rfl)
            (try simp only [Act.put, List.setIfInBounds_toArray, List.set_cons_zero, List.set_cons_succ])
            refine wpAnyN_take false (i := 9) (oi := ⟨some 49, _, _, _, _, _⟩) (v := ?_) rfl (by kernel_rfl) (by kernel_rfl) (by kernel_rfl) (fun _ _ _ h => h) (Or.inl ⟨by kernel_rfl, ?_⟩) ⟨trivial, fun h => (by cases h)⟩ ?_
            rotate_left
            · (intro w hSw; obtain ⟨hSa, hSb⟩ := hSw; clear hSb; (try dsimp only at hSa); go_simp; try with_reducible rfl)
            (try simp only [Act.put, List.setIfInBounds_toArray, List.set_cons_zero, List.set_cons_succ])
            refine wpAnyN_take false (i := 10) (oi := ⟨some 50, _, _, _, _, _⟩) (v := ?_) rfl (by kernel_rfl) (by kernel_rfl) (by kernel_rfl) (fun _ _ _ h => h) (Or.inl ⟨by kernel_rfl, ?_⟩) ⟨trivial, fun h => (by cases h)⟩ ?_
            rotate_left
            · (intro w hSw; obtain ⟨hSa, hSb⟩ := hSw; clear hSb; (try dsimp only at hSa); go_simp; try with_reducible rfl)
            (try simp only [Act.put, List.setIfInBounds_toArray, List.set_cons_zero, List.set_cons_succ])
            refine wpAnyN_take false (i := 11) (oi := ⟨some 51, _, _, _, _, _⟩) (v := ?_) rfl (by kernel_rfl) (by kernel_rfl) (by kernel_rfl) (fun _ _ _ h => h) (Or.inl ⟨by kernel_rfl, ?_⟩) ⟨trivial, fun h => (by cases h)⟩ ?_
            rotate_left
            · (intro w hSw; obtain ⟨hSa, hSb⟩ := hSw; clear hSb; (try dsimp only at hSa); go_simp; try with_reducible rfl)
            (try simp only [Act.put, List.setIfInBounds_toArray, List.set_cons_zero, List.set_cons_succ])
            refine wpAnyN_take false (i := 12) (oi := ⟨some 52, _, _, _, _, _⟩) (v := ?_) rfl (by kernel_rfl) (by kernel_rfl) (by kernel_rfl) (fun _ _ _ h => h) (Or.inl ⟨by kernel_rfl, ?_⟩) ⟨trivial, fun h => (by cases h)⟩ ?_
            rotate_left
            · (intro w hSw; obtain ⟨hSa, hSb⟩ := hSw; clear hSb; (try dsimp only at hSa); go_simp; try with_reducible rfl)
            (try simp only [Act.put, List.setIfInBounds_toArray, List.set_cons_zero, List.set_cons_succ])
            refine wpAnyN_takeD true [14, 15, 16, 17, 18, 19] (i := 13) (oi := ⟨some 53, _, _, _, _, _⟩) (v := ?_) rfl (by kernel_rfl) (by kernel_rfl) (by kernel_rfl) (fun _ _ _ h => h) (Or.inl ⟨by kernel_rfl, ?_⟩) ⟨trivial, fun _ => ⟨m1, m2⟩⟩ ?_
            rotate_left
            · (intro w hSw; obtain ⟨hSa, hSb⟩ := hSw; have hSc := hSb rfl; clear hSb; (try dsimp only at hSa hSc); go_simp; try with_reducible rfl)
            (try simp only [Act.put, List.setIfInBounds_toArray, List.set_cons_zero, List.set_cons_succ])
            refine wpAnyN_step (i := 6) (by kernel_rfl) rfl (by kernel_rfl) ?_
            intro K' hK
            (try simp only [Act.put, List.setIfInBounds_toArray, List.set_cons_zero, List.set_cons_succ])
            go_simp
            go_at_call 74; refine (HCN.out _).mono ?_; rintro e wz ⟨rfl, rfl⟩
            refine hK.out _ _ (trivial) (fun _ _ => ⟨m1, m2⟩) ?_
            clear hK K'
            (try simp only [Act.put, List.setIfInBounds_toArray, List.set_cons_zero, List.set_cons_succ])
            refine wpAnyN_take false (i := 14) (oi := ⟨some 54, _, _, _, _, _⟩) (v := ?_) rfl (by kernel_rfl) (by kernel_rfl) (by kernel_rfl) (fun _ _ _ h => h) (Or.inl ⟨by kernel_rfl, ?_⟩) ⟨trivial, fun h => (by cases h)⟩ ?_
            rotate_left
            · (intro w hSw; obtain ⟨hSa, hSb⟩ := hSw; clear hSb; (try dsimp only at hSa); go_simp; try with_reducible rfl)
            (try simp only [Act.put, List.setIfInBounds_toArray, List.set_cons_zero, List.set_cons_succ])
            refine wpAnyN_take false (i := 15) (oi := ⟨some 55, _, _, _, _, _⟩) (v := ?_) rfl (by kernel_rfl) (by kernel_rfl) (by kernel_rfl) (fun _ _ _ h => h) (Or.inl ⟨by kernel_rfl, ?_⟩) ⟨trivial, fun h => (by cases h)⟩ ?_
            rotate_left
            · (intro w hSw; obtain ⟨hSa, hSb⟩ := hSw; clear hSb; (try dsimp only at hSa); go_simp; try with_reducible rfl)
            (try simp only [Act.put, List.setIfInBounds_toArray, List.set_cons_zero, List.set_cons_succ])
            refine wpAnyN_take false (i := 16) (oi := ⟨some 56, _, _, _, _, _⟩) (v := ?_) rfl (by kernel_rfl) (by kernel_rfl) (by kernel_rfl) (fun _ _ _ h => h) (Or.inl ⟨by kernel_rfl, ?_⟩) ⟨trivial, fun h => (by cases h)⟩ ?_
            rotate_left
            · (intro w hSw; obtain ⟨hSa, hSb⟩ := hSw; clear hSb; (try dsimp only at hSa); go_simp; try with_reducible rfl)
            (try simp only [Act.put, List.setIfInBounds_toArray, List.set_cons_zero, List.set_cons_succ])
            refine wpAnyN_take false (i := 17) (oi := ⟨some 57, _, _, _, _, _⟩) (v := ?_) rfl (by kernel_rfl) (by kernel_rfl) (by kernel_rfl) (fun _ _ _ h => h) (Or.inl ⟨by kernel_rfl, ?_⟩) ⟨trivial, fun h => (by cases h)⟩ ?_
            rotate_left
            · (intro w hSw; obtain ⟨hSa, hSb⟩ := hSw; clear hSb; (try dsimp only at hSa); go_simp; try with_reducible rfl)
            (try simp only [Act.put, List.setIfInBounds_toArray, List.set_cons_zero, List.set_cons_succ])
            refine wpAnyN_step (i := 18) (by kernel_rfl) rfl (by kernel_rfl) ?_
            intro K' hK
            (try simp only [Act.put, List.setIfInBounds_toArray, List.set_cons_zero, List.set_cons_succ])
            go_simp
            go_at_call 78; refine HCY.out.mono ?_; rintro e w3 hpost
            obtain ⟨ow2, T2, bb, rfl, hm3, hcase⟩ := hpost.bool
            refine hK.out _ _ (trivial) (fun h => by cases h) ?_
            clear hK K'
            (try simp only [Act.put, List.setIfInBounds_toArray, List.set_cons_zero, List.set_cons_succ])
            refine wpAnyN_take false (i := 19) (oi := ⟨some 59, _, _, _, _, _⟩) (v := ?_) rfl (by kernel_rfl) (by kernel_rfl) (by kernel_rfl) (fun _ _ _ h => h) (Or.inl ⟨by kernel_rfl, ?_⟩) ⟨trivial, fun h => (by cases h)⟩ ?_
            rotate_left
            · (intro w hSw; obtain ⟨hSa, hSb⟩ := hSw; clear hSb; (try dsimp only at hSa); go_simp; try with_reducible rfl)
            (try simp only [Act.put, List.setIfInBounds_toArray, List.set_cons_zero, List.set_cons_succ])
            refine wpAnyN_done (by kernel_rfl) ?_
            have HM3 := Lib.hid (HMD.out.trans hm3)
            clear hm3 hpost m1 m2 HCY HMD
            rcases hcase with ⟨rfl, hmv⟩ | ⟨rfl, how, hv, hs⟩
            · have HMV := Lib.hid hmv
              have m3 := HM3.out.box.own hc
              obtain ⟨O2, hO2⟩ : ∃ O2, ow2 c = O2 := ⟨_, rfl⟩
              rw [hO2] at m3
              have HO2 := Lib.hid hO2
              have HO2L : Hid (O2 < 18446744073709551616) := Lib.hid (by rw [← hO2]; exact hmv.ok.lt c hc)
              obtain ⟨wC, hwC⟩ : ∃ wC, wC = w3 := ⟨_, rfl⟩
              subst hwC
              clear hmv hO2
              have HBX := Lib.hid HM3.out.box
              have lM : M < wC.heap.size := heap_lt HM3.out.box
              obtain ⟨R, hR⟩ : ∃ R, O2 ||| t1 = R := ⟨_, rfl⟩
              have hor : bits BinOp.or IntKind.u64 (O2 : Int) (t1 : Int) = (R : Int) := by rw [bits_or_u64_nat O2 t1 HO2L.out HT1L.out, hR]
              have HFD : Hid (Found g r T t ow (putO ow2 c R)) := Lib.hid (by
                rw [← hR, ← HT1.out, or_tick, ← HO2.out]
                exact found_moved hc ht HTF.out HB2.out (HFH.out c hc HTF.out) (HOK.out.room c hc) HTM.out HMV.out)
              clear hR
              go_wp2_with fail
              refine wp_region_N (S1 := fun w' => True) (S2 := fun w' => w'.cell? ⟨M, 34 + c, none⟩ = some (.int .u64 (O2 : Int))) (N := fun i => i != 13) (by kernel_rfl) ?_
              change wpAnyN _ _ _ _ _ _ _ 14 (Array.replicate 14 false) _ _
              refine wpAnyN_take false (i := 0) (oi := ⟨some 60, _, _, _, _, _⟩) (v := ?_) rfl (by kernel_rfl) (by kernel_rfl) (by kernel_rfl) (fun _ _ _ h => h) (Or.inl ⟨by kernel_rfl, ?_⟩) ⟨trivial, fun h => (by cases h)⟩ ?_
              rotate_left
              · (intro w hSw; obtain ⟨hSa, hSb⟩ := hSw; clear hSb; (try dsimp only at hSa); go_simp; try with_reducible rfl)
              (try simp only [Act.put, List.setIfInBounds_toArray, List.set_cons_zero, List.set_cons_succ])
              refine wpAnyN_take false (i := 1) (oi := ⟨some 61, _, _, _, _, _⟩) (v := ?_) rfl (by kernel_rfl) (by kernel_rfl) (by kernel_rfl) (fun _ _ _ h => h) (Or.inl ⟨by kernel_rfl, ?_⟩) ⟨trivial, fun h => (by cases h)⟩ ?_
              rotate_left
              · (intro w hSw; obtain ⟨hSa, hSb⟩ := hSw; clear hSb; (try dsimp only at hSa); go_simp; try with_reducible rfl)
              (try simp only [Act.put, List.setIfInBounds_toArray, List.set_cons_zero, List.set_cons_succ])
              refine wpAnyN_take false (i := 2) (oi := ⟨some 62, _, _, _, _, _⟩) (v := ?_) rfl (by kernel_rfl) (by kernel_rfl) (by kernel_rfl) (fun _ _ _ h => h) (Or.inl ⟨by kernel_rfl, ?_⟩) ⟨trivial, fun h => (by cases h)⟩ ?_
              rotate_left
              · (intro w hSw; obtain ⟨hSa, hSb⟩ := hSw; clear hSb; (try dsimp only at hSa); go_simp; try with_reducible rfl)
              (try simp only [Act.put, List.setIfInBounds_toArray, List.set_cons_zero, List.set_cons_succ])
              refine wpAnyN_take false (i := 3) (oi := ⟨some 63, _, _, _, _, _⟩) (v := ?_) rfl (by kernel_rfl) (by kernel_rfl) (by kernel_rfl) (fun _ _ _ h => h) (Or.inl ⟨by kernel_rfl, ?_⟩) ⟨trivial, fun h => (by cases h)⟩ ?_
              rotate_left
              · (intro w hSw; obtain ⟨hSa, hSb⟩ := hSw; clear hSb; (try dsimp only at hSa); go_simp; try with_reducible rfl)
              (try simp only [Act.put, List.setIfInBounds_toArray, List.set_cons_zero, List.set_cons_succ])
              refine wpAnyN_take false (i := 4) (oi := ⟨some 64, _, _, _, _, _⟩) (v := ?_) rfl (by kernel_rfl) (by kernel_rfl) (by kernel_rfl) (fun _ _ _ h => h) (Or.inl ⟨by kernel_rfl, ?_⟩) ⟨trivial, fun h => (by cases h)⟩ ?_
              rotate_left
              · (intro w hSw; obtain ⟨hSa, hSb⟩ := hSw; clear hSb; (try dsimp only at hSa); go_simp; try with_reducible rfl)
              (try simp only [Act.put, List.setIfInBounds_toArray, List.set_cons_zero, List.set_cons_succ])
              refine wpAnyN_take true (i := 5) (oi := ⟨some 65, _, _, _, _, _⟩) (v := ?_) rfl (by kernel_rfl) (by kernel_rfl) (by kernel_rfl) (fun _ _ _ h => h) (Or.inl ⟨by kernel_rfl, ?_⟩) ⟨trivial, fun _ => m3⟩ ?_
              rotate_left
              · (intro w hSw; obtain ⟨hSa, hSb⟩ := hSw; have hSc := hSb rfl; clear hSb; (try dsimp only at hSa hSc); go_simp; try with_reducible rfl)
              (try simp only [Act.put, List.setIfInBounds_toArray, List.set_cons_zero, List.set_cons_succ])
              refine wpAnyN_take false (i := 6) (oi := ⟨some 66, _, _, _, _, _⟩) (v := ?_) rfl (by kernel_rfl) (by kernel_rfl) (by kernel_rfl) (fun _ _ _ h => h) (Or.inl ⟨by kernel_rfl, ?_⟩) ⟨trivial, fun h => (by cases h)⟩ ?_
              rotate_left
              · (intro w hSw; obtain ⟨hSa, hSb⟩ := hSw; clear hSb; (try dsimp only at hSa); go_simp; try with_reducible rfl)
              (try simp only [Act.put, List.setIfInBounds_toArray, List.set_cons_zero, List.set_cons_succ])
              refine wpAnyN_take false (i := 10) (oi := ⟨some 70, _, _, _, _, _⟩) (v := ?_) rfl (by kernel_rfl) (by kernel_rfl) (by kernel_rfl) (fun _ _ _ h => h) (Or.inl ⟨by kernel_rfl, ?_⟩) ⟨trivial, fun h => (by cases h)⟩ ?_
              rotate_left
              · (intro w hSw; obtain ⟨hSa, hSb⟩ := hSw; clear hSb; (try dsimp only at hSa); go_simp; try with_reducible rfl)
              (try simp only [Act.put, List.setIfInBounds_toArray, List.set_cons_zero, List.set_cons_succ])
              refine wpAnyN_take false (i := 11) (oi := ⟨some 71, _, _, _, _, _⟩) (v := ?_) rfl (by kernel_rfl) (by kernel_rfl) (by kernel_rfl) (fun _ _ _ h => h) (Or.inl ⟨by kernel_rfl, ?_⟩) ⟨trivial, fun h => (by cases h)⟩ ?_
              rotate_left
              · (intro w hSw; obtain ⟨hSa, hSb⟩ := hSw; clear hSb; (try dsimp only at hSa); go_simp; try with_reducible rfl)
              (try simp only [Act.put, List.setIfInBounds_toArray, List.set_cons_zero, List.set_cons_succ])
              refine wpAnyN_step (i := 7) (by kernel_rfl) rfl (by kernel_rfl) ?_
              intro K' hK
              (try simp only [Act.put, List.setIfInBounds_toArray, List.set_cons_zero, List.set_cons_succ])
              obtain ⟨wq1, J, hwJ, hJ, hJl, hb1, hjb⟩ := box_any wC.drew #[.int .i64 (t : Int)] 3
              go_simp
              refine hK.out _ _ (trivial) (fun _ _ => (hb1.cell (p := ⟨M, 34 + c, none⟩) lM).trans m3) ?_
              clear hK K'
              (try simp only [Act.put, List.setIfInBounds_toArray, List.set_cons_zero, List.set_cons_succ])
              clear hwJ
              refine wpAnyN_step (i := 8) (by kernel_rfl) rfl (by kernel_rfl) ?_
              intro K' hK
              (try simp only [Act.put, List.setIfInBounds_toArray, List.set_cons_zero, List.set_cons_succ])
              go_simp
              have hjt : IntsAt wq1 (.slice (some ⟨J, 0, none⟩) 1 1) [(t : Int)] := ⟨_, _, rfl, (by show 1 ≤ 9223372036854775807; omega), fun _ => ⟨J, 0, rfl, hJl, fun j x hx => by
                rcases j with _ | j
                · have e : x = (t : Int) := by simpa using hx.symm
                  subst e
                  rw [cell_of_row wq1 J (0 + 0) _ _ _ hjb]; rfl
                · simp at hx⟩⟩
              go_at_call 60; refine (of_any [(t : Int)] _ wq1 hjt).mono ?_; rintro e wq2 ⟨rfl, rfl⟩
              rw [HOF.out]
              refine hK.out _ _ (trivial) (fun _ _ => (hb1.cell (p := ⟨M, 34 + c, none⟩) lM).trans m3) ?_
              clear hK K'
              (try simp only [Act.put, List.setIfInBounds_toArray, List.set_cons_zero, List.set_cons_succ])
              have z0 := (hb1.cell (p := ⟨M, 34 + c, none⟩) lM).trans m3
              have z1 : wq1.frozen? ⟨M, 34 + c, none⟩ = false := block_free (keep_block HBX.out ((Below.refl _ _).drew.trans hb1))
              refine wpAnyN_take false (i := 9) (oi := ⟨some 69, _, _, _, _, _⟩) (v := ?_) rfl (by kernel_rfl) (by kernel_rfl) (by kernel_rfl) (fun _ _ _ h => h) (Or.inl ⟨by kernel_rfl, ?_⟩) ⟨trivial, fun h => (by cases h)⟩ ?_
              rotate_left
              · (intro w hSw; obtain ⟨hSa, hSb⟩ := hSw; clear hSb; (try dsimp only at hSa); go_simp; try with_reducible rfl)
              (try simp only [Act.put, List.setIfInBounds_toArray, List.set_cons_zero, List.set_cons_succ])
              refine wpAnyN_take false (i := 12) (oi := ⟨some 72, _, _, _, _, _⟩) (v := ?_) rfl (by kernel_rfl) (by kernel_rfl) (by kernel_rfl) (fun _ _ _ h => h) (Or.inl ⟨by kernel_rfl, ?_⟩) ⟨trivial, fun h => (by cases h)⟩ ?_
              rotate_left
              · (intro w hSw; obtain ⟨hSa, hSb⟩ := hSw; clear hSb; (try dsimp only at hSa); go_simp; try with_reducible rfl)
              (try simp only [Act.put, List.setIfInBounds_toArray, List.set_cons_zero, List.set_cons_succ])
              refine wpAnyN_step (i := 13) (by kernel_rfl) rfl (by kernel_rfl) ?_
              intro K' hK
              (try simp only [Act.put, List.setIfInBounds_toArray, List.set_cons_zero, List.set_cons_succ])
              go_simp
              refine hK.out _ _ (trivial) (fun h => by cases h) ?_
              clear hK K'
              (try simp only [Act.put, List.setIfInBounds_toArray, List.set_cons_zero, List.set_cons_succ])
              refine wpAnyN_done (by kernel_rfl) ?_
              have HME := Lib.hid (HM3.out.setOwn ((Below.refl _ _).drew.trans hb1) hc R)
              obtain ⟨wS, hwS⟩ : ∃ wS, wq1.setCell ⟨M, 34 + c, none⟩ (.int .u64 (R : Int)) = wS := ⟨_, rfl⟩
              rw [hwS] at HME ⊢
              clear hwS hb1 hjb hJ hJl hjt z0 z1 m3 hor
              go_wp2_with fail
              go_ret
              rw [hA2] at HME
              exact ⟨_, _, HME.out, .inl ⟨rfl, HFD.out⟩⟩
            · rw [how] at HM3
              have HV2 := Lib.hid (HVN.out.core HOK.out hc hv (by rw [HO.out, HCC.out, HRC.out]; exact hcr) hs)
              have HL2 := Lib.hid (HNEXT.out T2 (fun d hd h => hv.more d hd (setT1_old h)) (fun _ => hv.more c hc setT1_self))
              clear hv hs how
              go_wp2_with fail
              rw [← hA2]
              go_roundg (nc - (i + 1))
              case measure => have := HG.out; omega
              case rel => exact ⟨i + 1, T2, by omega, rfl, by go_num, HM3, HV2, HL2⟩
    · have hin : i = nc := by omega
      subst hin
      have HFIN : Hid (AllTried g t T') := Lib.hid (fun d hd hg => by
        obtain ⟨a, ha⟩ := HALL.out d hd t hg
        have : a < i := by have := (List.getElem?_eq_some_iff.1 ha).1; rw [HLEN.out] at this; exact this
        exact HAL.out a this d ha hg)
      go_wp2_with fail
      go_ret
      exact ⟨_, _, HMR.out, .inr ⟨rfl, rfl, HVN.out, HFIN.out⟩⟩

theorem assign_any (W0 : World) (M : Nat) (F : Int) (A : Option Addr) (nc cA : Nat) (g r : Nat → Nat) (cs : List Int) (hlen : cs.length = nc) (h16 : nc ≤ 16) (hcs : ∀ W', Apart (fun b => b = M) W0 W' → IntsAt W' (.slice A nc cA) cs)
    (hct : ∀ (i : Nat) (x : Int), cs[i]? = some x → ∃ c : Nat, c < 16 ∧ x = (c : Int)) (hall : ∀ c : Nat, c < 16 → ∀ t, (g c).testBit t = true → ∃ i : Nat, cs[i]? = some (c : Int)) (hgl : ∀ c, c < 16 → g c < 18446744073709551616) (hrl : ∀ c, c < 16 → r c ≤ 64) :
    ∀ n : Nat, AssignC W0 M F (.slice A nc cA) g r n
  | 0 => assign_of W0 M F A nc cA g r cs hlen h16 hcs hct hall hgl hrl 0 fun _ _ _ _ h => absurd h (Nat.not_lt_zero _)
  | n + 1 => assign_of W0 M F A nc cA g r cs hlen h16 hcs hct hall hgl hrl (n + 1) fun ow T k W h hk hT hok hone hm =>
    yield_any W0 M F (.slice A nc cA) g r n (assign_any W0 M F A nc cA g r cs hlen h16 hcs hct hall hgl hrl n) ow T k W (by omega) hk hT hok hone hm
end Go.Proofs.Ytkgkanmccaodfaa
