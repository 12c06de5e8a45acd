/-
  The first core that has room, as the program tells it of any plan.
  Conditions: the slice reads as places; the numbers are of their kinds.
-/
import Derived.Test.YtkgkanmccaodfaaM23
import Derived.Test.YtkgkanmccaodfaaM19
import Derived.Test.YtkgkanmccaodfaaM16
import Derived.Test.YtkgkanmccaodfaaM20
import Derived.Test.YtkgkanmccaodfaaM18

/-
  The loom of a plan.
  Conditions: the slice reads as places; the plan is right.
-/
set_option linter.unusedVariables false
set_option linter.unusedSimpArgs false
namespace Go.Proofs.Ytkgkanmccaodfaa
open Go.RowKit

theorem yieldsIf_build {P : Program} {ops : Array Oper} {S : World → Prop} {op : Oper} {a : Act} (hw : Region.wanted op (yielded ops a.tmps) = true) (t : TypeId) (parts : Array (Nat × Operand)) (ho : op.op = .build t parts)
    (vs : List (Nat × Value)) (cells : Array Value) (he : (parts.map fun (i, x) => (i, a.eval x)).toList = vs) (hb : P.built t vs = some cells) : YieldsIf P ops S op (.agg cells) a :=
  .inl ⟨hw, fun w _ => by
    unfold execOp
    simp only [ho, Sem.run_bind, run_build w t _ cells (by rw [he]; exact hb), Result.andThen_ok, Sem.run_pure]⟩
/-- The values of the first i cores alone. -/
def partT (cs : List Int) (F : Nat → Nat) (i c : Nat) : Nat := if (cs.take i).contains (c : Int) = true then F c else 0
theorem partT_zero (cs : List Int) (F : Nat → Nat) (c : Nat) : partT cs F 0 c = 0 := rfl
theorem partT_succ {F : Nat → Nat} {cs : List Int} {i d : Nat} (h : cs[i]? = some (d : Int)) (j : Nat) : partT cs F (i + 1) j = if j = d then F d else partT cs F i j := by
  unfold partT
  rw [List.take_add_one, h]
  by_cases e : j = d
  · subst e
    simp
  · rw [if_neg e]
    have : ¬ ((j : Int) = (d : Int)) := by omega
    simp [this]
theorem partT_all {F : Nat → Nat} {cs : List Int} {i c : Nat} (h : cs.length ≤ i) (hn : (c : Int) ∉ cs → F c = 0) : partT cs F i c = F c := by
  unfold partT
  rw [List.take_of_length_le h]
  split
  · rfl
  · rename_i hno
    exact (hn (by simpa using hno)).symm
theorem ticks_mem {m c : Nat} (h : c < 64) (hb : m.testBit c = true) : (c : Int) ∈ ticksI m 64 := by
  obtain ⟨i, hi⟩ := ticks_has h hb
  exact List.mem_of_getElem? hi
theorem keep_loom {W W' : World} {X : Nat} {F : Int} {v : Value} {g r : Nat → Nat} (h : LoomIn W X F v g r) (hb : Below W.heap.size W W') : LoomIn W' X F v g r := keep_block h hb
theorem gap_less {f : Int} {m : Nat} {l : List Pl} {d : Nat} (hb : m.testBit d = true) : lessN (allN f.toNat) (winN (pcsOf l) (d : Int)) = gapT f m l d := by
  unfold lessN gapT
  exact setP_congr fun j _ => by rw [allN_bit, hb, Bool.true_and]
theorem frN_of {f : Int} (h0 : 0 ≤ f) (h : f ≤ 64) : frN f = f.toNat := by unfold frN; omega

set_option maxRecDepth 100000 in
set_option maxHeartbeats 1000000 in
theorem coresF_any (f : Int) (m : Nat) (v : Value) (w : World) (hm : m < 4294967296) :
    Calls Try.prog 49 #[planA f m v] w (RetLF (ticksI m 64) w) := by
  have hconv := conv32 m hm
  obtain ⟨w1, P, hw1, hP, hPl, hb1, hbox⟩ := box_any w #[.int .i64 f, .int .u32 m, v] 25
  have HB1 := Lib.hid hb1
  obtain ⟨r0, r1, r2⟩ := three_heads hbox
  have HT := Lib.hid (fun W => ticksF_any m W (by omega) (fun W => count_any m W (by omega)))
  clear hb1 hbox
  unfold planA
  go_enter Try.func49, Try.ntmps49
  go_wp2_with fail
  refine (HT.out _).mono ?_
  rintro e w2 ⟨v2, rfl, hi, hb2, hf⟩
  have HI := Lib.hid hi
  have HF : Hid (∀ k, v2.ownBlock = some k → w.heap.size ≤ k) := Lib.hid (fun k hk => Nat.le_trans HB1.out.size (hf k hk))
  have HB2 := Lib.hid (HB1.out.trans (hb2.mono HB1.out.size))
  clear hi hb2 hf
  go_wp2_with fail
  go_ret
  exact ⟨_, rfl, HI.out, HB2.out, HF.out⟩

set_option maxRecDepth 100000 in
set_option maxHeartbeats 16000000 in
theorem loomOf_any (f : Int) (m : Nat) (v : Value) (l : List Pl) (w : World) (h : PlsAt w v l) (hL : LightL l) (hr : Right f m l) :
    Calls Try.prog 27 #[planA f m v] w (fun e w' => ∃ A n c, e = .returned (.agg (loomC f (.slice A n c) (gapT f m l) (rmN f m l))) ∧ (ticksI m 64).length = n ∧ IntsAt w' (.slice A n c) (ticksI m 64) ∧ Below w.heap.size w w') := by
  have mixed : Try.prog.follows .mixedOrders = true := by kernel_rfl
  have hm := hr.m16
  have hf2 := hr.f2
  have hf64 := hr.f64
  obtain ⟨Z, hZ⟩ : ∃ Z, loomC 0 (.slice none 0 0) (fun _ => 0) (fun _ => 0) = Z := ⟨_, rfl⟩
  have HZM : Hid ((Try.prog.info? 57).bind (·.zero) = some (.agg Z)) := Lib.hid (by rw [← hZ]; exact Try.zeroLm)
  have HZL : Hid (Z.size = 34) := Lib.hid (by rw [← hZ, loomC_size])
  obtain ⟨w1, P, hw1, hP, hPl, hb1, hbox⟩ := box_any w #[.int .i64 f, .int .u32 m, v] 25
  obtain ⟨w2, R2, hw2, hR2, hR2l, hb2, hrox⟩ := box_any w1 Z 57
  have HB2 := Lib.hid (hb1.trans (hb2.mono hb1.size))
  have HPB := Lib.hid (keep_block hbox hb2)
  have HRB := Lib.hid hrox
  have HPQ : Hid (P < R2 ∧ w.heap.size ≤ R2 ∧ R2 < w2.heap.size ∧ w.heap.size ≤ w2.heap.size) := Lib.hid ⟨by omega, by have := hb1.size; omega, hR2l, HB2.out.size⟩
  have HSA : Hid (∀ W, Below w2.heap.size w2 W → W.cell? ⟨P, 0, none⟩ = some (.int .i64 f) ∧ W.cell? ⟨P, 1, none⟩ = some (.int .u32 m) ∧ W.cell? ⟨P, 2, none⟩ = some v) := Lib.hid (fun W hk => three_heads (keep_block HPB.out hk))
  have HSR : Hid (∀ W, Below w2.heap.size w2 W → ∀ R, w2.heap.size ≤ R → ∀ cs, (W.setRow R cs).cell? ⟨P, 0, none⟩ = some (.int .i64 f) ∧ (W.setRow R cs).cell? ⟨P, 1, none⟩ = some (.int .u32 m) ∧ (W.setRow R cs).cell? ⟨P, 2, none⟩ = some v) := Lib.hid (fun W hk R hR cs => three_heads ((setRow_other _ _ _ _ (by have := HPQ.out; omega)).trans (keep_block HPB.out hk)))
  have HSD : Hid (∀ W, Below w2.heap.size w2 W → ∀ R k (u : Value), P ≠ R → (W.setCell ⟨R, k, none⟩ u).cell? ⟨P, 0, none⟩ = some (.int .i64 f) ∧ (W.setCell ⟨R, k, none⟩ u).cell? ⟨P, 1, none⟩ = some (.int .u32 m) ∧ (W.setCell ⟨R, k, none⟩ u).cell? ⟨P, 2, none⟩ = some v) := Lib.hid (fun W hk R k u hne => three_heads ((heap_other W _ (by exact hne)).trans (keep_block HPB.out hk)))
  have HH : Hid (∀ W, Below w2.heap.size w2 W → PlsAt W v l) := Lib.hid (fun W hk => h.keep (HB2.out.trans (hk.mono HB2.out.size)))
  have HCO := Lib.hid (fun W (hk : Below w2.heap.size w2 W) => coresF_any f m v W (by omega))
  have HAL := Lib.hid (fun W => all_any f W)
  rw [frN_of (by omega) hf64] at HAL
  have HWI := Lib.hid (fun (c : Int) (hc : hasC m c = true) W (hk : Below w2.heap.size w2 W) => winP_any f m v l c W (HH.out W hk) hL (by omega) hc)
  have HRO : Hid (∀ d : Nat, d < 16 → ∀ W, Below w2.heap.size w2 W → Calls Try.prog 52 #[planA f m v, .int .i64 (d : Int)] W (RetB (.int .i64 ((rmN f m l d : Nat) : Int)) W)) := Lib.hid (fun d hd W hk => by
    rw [(hr.rm hd).1]
    exact room_any f m v l (d : Int) W (HH.out W hk) hL (shares_of hr.place hf64) (by omega) (by omega) hf64)
  have HM16 := Lib.hid hm
  have HF64 : Hid (f.toNat ≤ 64) := Lib.hid (by omega)
  obtain ⟨r0, r1, r2⟩ := HSA.out w2 (Below.refl _ _)
  have hkd : Below w2.heap.size w2 w2.drew := (Below.refl _ _).drew
  unfold planA at HCO HWI HRO ⊢
  clear h hL hr hm hZ hb1 hb2 hbox hrox
  go_enter Try.func27, Try.ntmps27
  go_wp2_with (refine wpList_alloc_is rfl _ rfl Z HZM.out ?_; rw [hw2, hR2])
  clear hw1 hw2 hP hR2 r0 r1 r2
  refine wp_region_N (S1 := fun w' => w'.cell? ⟨P, 0, none⟩ = some (.int .i64 f) ∧ w'.cell? ⟨P, 1, none⟩ = some (.int .u32 m) ∧ w'.cell? ⟨P, 2, none⟩ = some v) (S2 := fun _ => True) (N := fun _ => true) (by kernel_rfl) ?_
  change wpAnyN _ _ _ _ _ _ _ 7 (Array.replicate 7 false) _ _
  refine wpAnyN_take false (i := 0) (oi := ⟨some 6, _, _, _, _, _⟩) (v := ?_) rfl (by kernel_rfl) (by kernel_rfl) (by kernel_rfl) (fun _ _ _ h => h) (Or.inl ⟨by kernel_rfl, ?_⟩) ⟨HSA.out _ hkd, fun h => (by cases h)⟩ ?_
  rotate_left
  · (intro w hSw; obtain ⟨hSa, hSb⟩ := hSw; clear hSb; (try dsimp only at hSa); go_simp; try with_reducible rfl)
  (try simp only [Act.put, List.setIfInBounds_toArray, List.set_cons_zero, List.set_cons_succ])
  refine wpAnyN_take false (i := 1) (oi := ⟨some 7, _, _, _, _, _⟩) (v := ?_) rfl (by kernel_rfl) (by kernel_rfl) (by kernel_rfl) (fun _ _ _ h => h) (Or.inl ⟨by kernel_rfl, ?_⟩) ⟨HSA.out _ hkd, fun h => (by cases h)⟩ ?_
  rotate_left
  · (intro w hSw; obtain ⟨hSa, hSb⟩ := hSw; clear hSb; (try dsimp only at hSa); go_simp; try with_reducible rfl)
  (try simp only [Act.put, List.setIfInBounds_toArray, List.set_cons_zero, List.set_cons_succ])
  refine wpAnyN_take false (i := 2) (oi := ⟨some 8, _, _, _, _, _⟩) (v := ?_) rfl (by kernel_rfl) (by kernel_rfl) (by kernel_rfl) (fun _ _ _ h => h) (Or.inl ⟨by kernel_rfl, ?_⟩) ⟨HSA.out _ hkd, fun h => (by cases h)⟩ ?_
  rotate_left
  · (intro w hSw; obtain ⟨hSa, hSb⟩ := hSw; clear hSb; (try dsimp only at hSa); go_simp; try with_reducible rfl)
  (try simp only [Act.put, List.setIfInBounds_toArray, List.set_cons_zero, List.set_cons_succ])
  refine wpAnyN_two (i := 3) (j := 5) (by kernel_rfl) rfl rfl (by kernel_rfl) (by kernel_rfl) ?_ ?_
  · intro K' hK
    (try simp only [Act.put, List.setIfInBounds_toArray, List.set_cons_zero, List.set_cons_succ])
    go_simp
    go_at_call 49; refine (HCO.out w2.drew hkd).mono ?_; rintro e wa ⟨v5, rfl, hv5, hb5, hfr5⟩
    obtain ⟨A, c, hvE, hl5, hat5⟩ := hv5
    obtain ⟨n, hn⟩ : ∃ n, (ticksI m 64).length = n := ⟨_, rfl⟩
    rw [hn] at hvE
    subst hvE
    have hka := hkd.trans (hb5.mono hkd.size)
    refine hK.out _ _ (HSA.out _ hka) (fun _ _ => trivial) ?_
    clear hK K'
    (try simp only [Act.put, List.setIfInBounds_toArray, List.set_cons_zero, List.set_cons_succ])
    obtain ⟨LC, hLC⟩ : ∃ LC, loomC f (.slice A n c) (fun _ => 0) (fun _ => 0) = LC := ⟨_, rfl⟩
    have HLC := Lib.hid hLC
    have HBL : Hid (Try.prog.built 57 [(0, .int .i64 f), (1, .slice A n c)] = some LC) := Lib.hid (by rw [← hLC]; exact Try.builtLm _ _ _ _)
    have HSC : Hid ((Try.prog.info? 57).map (·.size) = some LC.size) := Lib.hid (by rw [← hLC]; exact Try.sizeLm _ _ _ _)
    have HSZ : Hid (Z.size = LC.size) := Lib.hid (by rw [← hLC, HZL.out, loomC_size])
    have HC1 : Hid (LC.all (·.oneCell') = true) := Lib.hid (by rw [← hLC]; exact loomC_one _ _ _ _ _ _)
    clear hLC
    refine wpAnyN_take false (i := 4) (oi := ⟨some 10, _, _, _, _, _⟩) (v := .agg LC) rfl (by kernel_rfl) (by kernel_rfl) (by kernel_rfl) (fun _ _ _ h => h) (yieldsIf_build (by kernel_rfl) _ _ rfl [(0, .int .i64 f), (1, .slice A n c)] LC (by simp [Act.eval, Act.put]) HBL.out) ⟨HSA.out _ hka, fun h => (by cases h)⟩ ?_
    (try simp only [Act.put, List.setIfInBounds_toArray, List.set_cons_zero, List.set_cons_succ])
    refine wpAnyN_step (i := 5) (by kernel_rfl) rfl (by kernel_rfl) ?_
    intro K' hK
    (try simp only [Act.put, List.setIfInBounds_toArray, List.set_cons_zero, List.set_cons_succ])
    obtain ⟨wz, R3, hwz, hR3, hR3l, hbz, hrz⟩ := box_any wa Z 57
    refine wp_alloc_is _ rfl Z HZM.out ?_
    rw [hwz, hR3]
    have hkz := hka.trans (hbz.mono hka.size)
    refine hK.out _ _ (HSA.out _ hkz) (fun _ _ => trivial) ?_
    clear hK K'
    (try simp only [Act.put, List.setIfInBounds_toArray, List.set_cons_zero, List.set_cons_succ])
    have hv6 : IntsAt wz (.slice A n c) (ticksI m 64) := IntsAt.keep ⟨A, c, by rw [hn], hl5, hat5⟩ hbz
    have hR3w : w2.heap.size ≤ R3 := by have := hka.size; omega
    have hbn : 0 < (ticksI m 64).length → ∀ k, (Value.slice A n c).ownBlock = some k → k ≠ R3 ∧ R2 < k := fun hl k hk => by
      obtain ⟨b, off, e, hbl, _⟩ := hat5 hl
      have h7 : w2.heap.size ≤ k := hfr5 k hk
      rw [e] at hk
      have h8 : b = k := Option.some.inj hk
      have := HPQ.out
      omega
    refine wpAnyN_step (i := 6) (by kernel_rfl) rfl (by kernel_rfl) ?_
    intro K' hK
    (try simp only [Act.put, List.setIfInBounds_toArray, List.set_cons_zero, List.set_cons_succ])
    refine wp_store_row _ _ _ rfl R3 LC (by simp [Act.eval, Act.put]) (by simp [Act.eval, Act.put]) 57 Z hrz HSC.out HSZ.out HC1.out ?_
    refine hK.out _ _ (HSR.out _ hkz R3 hR3w _) (fun _ _ => trivial) ?_
    clear hK K'
    (try simp only [Act.put, List.setIfInBounds_toArray, List.set_cons_zero, List.set_cons_succ])
    refine wpAnyN_done (by kernel_rfl) ?_

    obtain ⟨w4, hw4⟩ : ∃ w4, wz.setRow R3 LC = w4 := ⟨_, rfl⟩
    have HB4 : Hid (Below w2.heap.size w2 w4) := Lib.hid (by rw [← hw4]; exact below_row hkz hR3w _)
    have HL4 : Hid (LoomIn w4 R3 f (.slice A n c) (partT (ticksI m 64) (gapT f m l) 0) (partT (ticksI m 64) (rmN f m l) 0)) := Lib.hid (by
      show w4.heap[R3]? = some (.cells (loomC f (.slice A n c) _ _) 57 (0, 0))
      rw [← hw4, loomC_congr (g' := fun _ => 0) (r' := fun _ => 0) (fun c _ => partT_zero _ _ c) (fun c _ => partT_zero _ _ c), HLC.out]
      exact setRow_heap _ _ _ _ _ _ hrz)
    have HV6 : Hid (∀ W, Apart (fun b => b = R3) w4 W → IntsAt W (.slice A n c) (ticksI m 64)) := Lib.hid (fun W ha => by
      obtain ⟨A', c', e', h1', h2'⟩ := hv6
      rw [hn] at e'
      obtain ⟨rfl, rfl⟩ : A = A' ∧ c = c' := by simp only [Value.slice.injEq, true_and] at e'; exact e'
      refine ⟨A, c, by rw [hn], h1', fun hlen => ?_⟩
      obtain ⟨b, off, hb, hbl, hcell⟩ := h2' hlen
      have hbne : b ≠ R3 := (hbn hlen b (by rw [hb]; rfl)).1
      refine ⟨b, off, hb, Nat.lt_of_lt_of_le (by rw [← hw4, setRow_size]; exact hbl) ha.size, fun j x hx => ?_⟩
      have h3 := hcell j x hx
      have h4 : w4.heap[b]? = wz.heap[b]? := by rw [← hw4]; exact setRow_other _ _ _ _ hbne
      have h5 := ha.block b (by rw [← hw4, setRow_size]; exact hbl) hbne
      rw [← h3]
      simp [World.cell?, h4, h5])
    have HPR : Hid (P < R3 ∧ R2 < R3) := Lib.hid (by have := HPQ.out; omega)
    have HNE := Lib.hid hn
    have HR3 := Lib.hid hR3w
    have HBN := Lib.hid hbn
    have hn64 : n ≤ 64 := by rw [← hn, ticksI_length]; exact cntT_le _ _
    rw [hw4]
    clear hw4 hv6 hkz hrz hn hR3w HBL HSC HSZ HC1 HLC hl5 hat5 hfr5 hbn hka hbz hb5 hwz hR3 hR3l
    have q0 := HL4.out.cores
    go_wp2_with fail
    clear q0
    go_loopg [5, 14] n (fun gg s5 s14 wr => ∃ i : Nat, i ≤ n ∧ gg = n - i ∧ s14 = .int .i64 i ∧ Hid (Apart (fun b => b = R3) w4 wr) ∧ Hid (LoomIn wr R3 f (.slice A n c) (partT (ticksI m 64) (gapT f m l) i) (partT (ticksI m 64) (rmN f m l) i)))
    case atStart => exact ⟨0, Nat.zero_le _, rfl, rfl, Lib.hid (Apart.refl _ _), HL4⟩
    case round =>
      obtain ⟨i, hi, hgg, rfl, HAP, HLM⟩ := hrel
      have HG := Lib.hid hgg
      have HBW : Hid (Below w2.heap.size w2 wr) := Lib.hid (HB4.out.trans (HAP.out.below HB4.out.size fun b hb e => by have := HR3.out; omega))
      clear hgg
      by_cases hlt : i < n
      · have hltz : (i : Int) < (n : Int) := by omega
        have hi0 : (0 : Int) ≤ (i : Int) := by omega
        obtain ⟨x, hx⟩ : ∃ x, (ticksI m 64)[i]? = some x := ⟨_, List.getElem?_eq_getElem (by rw [HNE.out]; exact hlt)⟩
        obtain ⟨d, rfl, hd64, hbd⟩ := ticks_is hx
        have hdc : d < 16 := by
          rcases Nat.lt_or_ge d 16 with h1 | h1
          · exact h1
          · rw [Nat.testBit_lt_two_pow (Nat.lt_of_lt_of_le HM16.out (show 65536 ≤ 2 ^ d from Nat.pow_le_pow_right (n := 2) (by decide) h1))] at hbd
            cases hbd
        have hd0 : (0 : Int) ≤ (d : Int) := by omega
        have hd16 : (d : Int) < 16 := by omega
        obtain ⟨A', c', hA', hlm, hcell⟩ := HV6.out wr HAP.out
        obtain ⟨b, off, hAb, hbl, hcl⟩ := hcell (by rw [HNE.out]; omega)
        have e0 := hcl i _ hx
        rw [hAb] at hA'
        have hA2 : A = some ⟨b, off, none⟩ := by simp only [Value.slice.injEq] at hA'; exact hA'.1
        rw [hA2]
        have HXI := Lib.hid hx
        have HBD := Lib.hid hbd
        have HPG := Lib.hid (fun F => partT_succ (F := F) hx)
        have HWC := Lib.hid (fun W (hk : Below wr.heap.size wr W) => HWI.out (d : Int) (by rw [hasC_nat hdc]; exact HBD.out) W (HBW.out.trans (hk.mono HBW.out.size)))
        have HRC := Lib.hid (fun W (hk : Below w2.heap.size w2 W) => HRO.out d hdc W hk)
        have HSB : Hid (∀ W, Below wr.heap.size wr W → W.cell? ⟨P, 0, none⟩ = some (.int .i64 f) ∧ W.cell? ⟨P, 1, none⟩ = some (.int .u32 m) ∧ W.cell? ⟨P, 2, none⟩ = some v) := Lib.hid (fun W hk => HSA.out W (HBW.out.trans (hk.mono HBW.out.size)))
        have HSC2 : Hid (∀ W, Below wr.heap.size wr W → ∀ k (u : Value), (W.setCell ⟨R3, k, none⟩ u).cell? ⟨P, 0, none⟩ = some (.int .i64 f) ∧ (W.setCell ⟨R3, k, none⟩ u).cell? ⟨P, 1, none⟩ = some (.int .u32 m) ∧ (W.setCell ⟨R3, k, none⟩ u).cell? ⟨P, 2, none⟩ = some v) := Lib.hid (fun W hk k u => HSD.out W (HBW.out.trans (hk.mono HBW.out.size)) R3 k u (by have := HPR.out; omega))
        obtain ⟨a1, ha1⟩ : ∃ a1, allN f.toNat = a1 := ⟨_, rfl⟩
        obtain ⟨b1, hb1⟩ : ∃ b1, winN (pcsOf l) (d : Int) = b1 := ⟨_, rfl⟩
        obtain ⟨g1, hg1⟩ : ∃ g1, gapT f m l d = g1 := ⟨_, rfl⟩
        have hand : bits BinOp.andNot IntKind.u64 (a1 : Int) (b1 : Int) = (g1 : Int) := by
          rw [andNot_word a1 b1 (by rw [← ha1]; exact allN_lt HF64.out) (by rw [← hb1]; exact winN_lt _ _), ← ha1, ← hb1, ← hg1, gap_less HBD.out]
        have HG1 := Lib.hid hg1
        rw [ha1] at HAL
        rw [hb1] at HWC
        have hkq : Below wr.heap.size wr wr.drew := (Below.refl _ _).drew
        clear hcell hcl hA' hAb hlm hx hbd ha1 hb1 hg1
        go_wp2_with fail
        refine wp_region_held_drew (S := fun w' => w'.cell? ⟨P, 0, none⟩ = some (.int .i64 f) ∧ w'.cell? ⟨P, 1, none⟩ = some (.int .u32 m) ∧ w'.cell? ⟨P, 2, none⟩ = some (v)) (by kernel_rfl) ?_ (fun hHeld => ?_)
        · exact HSB.out _ hkq
        refine wpAnyH_take (i := 0) (oi := ⟨some 18, _, _, _, _, _⟩) (v := ?_) rfl (by kernel_rfl) (by kernel_rfl) (by kernel_rfl) (fun _ _ _ h => h) (Or.inl ⟨by kernel_rfl, ?_⟩) (by assumption) ?_
        rotate_left
        · (intro w hSw; (try dsimp only at hSw); go_simp; try with_reducible rfl)
        (try simp only [Act.put, List.setIfInBounds_toArray, List.set_cons_zero, List.set_cons_succ])
        refine wpAnyH_take (i := 1) (oi := ⟨some 19, _, _, _, _, _⟩) (v := ?_) rfl (by kernel_rfl) (by kernel_rfl) (by kernel_rfl) (fun _ _ _ h => h) (Or.inl ⟨by kernel_rfl, ?_⟩) (by assumption) ?_
        rotate_left
        · (intro w hSw; (try dsimp only at hSw); go_simp; try with_reducible rfl)
        (try simp only [Act.put, List.setIfInBounds_toArray, List.set_cons_zero, List.set_cons_succ])
        refine wpAnyH_take (i := 2) (oi := ⟨some 20, _, _, _, _, _⟩) (v := ?_) rfl (by kernel_rfl) (by kernel_rfl) (by kernel_rfl) (fun _ _ _ h => h) (Or.inl ⟨by kernel_rfl, ?_⟩) (by assumption) ?_
        rotate_left
        · (intro w hSw; (try dsimp only at hSw); go_simp; try with_reducible rfl)
        (try simp only [Act.put, List.setIfInBounds_toArray, List.set_cons_zero, List.set_cons_succ])
        refine wpAnyH_take (i := 4) (oi := ⟨some 22, _, _, _, _, _⟩) (v := ?_) rfl (by kernel_rfl) (by kernel_rfl) (by kernel_rfl) (fun _ _ _ h => h) (Or.inl ⟨by kernel_rfl, ?_⟩) (by assumption) ?_
        rotate_left
        · (intro w hSw; (try dsimp only at hSw); go_simp; try with_reducible rfl)
        (try simp only [Act.put, List.setIfInBounds_toArray, List.set_cons_zero, List.set_cons_succ])
        refine wpAnyH_take (i := 5) (oi := ⟨some 23, _, _, _, _, _⟩) (v := ?_) rfl (by kernel_rfl) (by kernel_rfl) (by kernel_rfl) (fun _ _ _ h => h) (Or.inl ⟨by kernel_rfl, ?_⟩) (by assumption) ?_
        rotate_left
        · (intro w hSw; (try dsimp only at hSw); go_simp; try with_reducible rfl)
        (try simp only [Act.put, List.setIfInBounds_toArray, List.set_cons_zero, List.set_cons_succ])
        refine wpAnyH_take (i := 8) (oi := ⟨some 26, _, _, _, _, _⟩) (v := ?_) rfl (by kernel_rfl) (by kernel_rfl) (by kernel_rfl) (fun _ _ _ h => h) (Or.inl ⟨by kernel_rfl, ?_⟩) (by assumption) ?_
        rotate_left
        · (intro w hSw; (try dsimp only at hSw); go_simp; try with_reducible rfl)
        (try simp only [Act.put, List.setIfInBounds_toArray, List.set_cons_zero, List.set_cons_succ])
        refine wpAnyH_ready (rs := [3]) (by kernel_rfl) (by simp) ?_
        refine AllReadyH.cons (o := ⟨some 21, _, _, _, _, _⟩) rfl (fun K hK => ?_) AllReadyH.nil
        rw [if_pos (by kernel_rfl)]
        go_simp
        go_at_call 50; refine (HAL.out _).mono ?_; rintro e wb ⟨rfl, rfl⟩
        refine hK.out _ _ ?_ (fun hHeld => ?_)
        · exact HSB.out _ hkq
        clear hK K
        (try simp only [Act.put, List.setIfInBounds_toArray, List.set_cons_zero, List.set_cons_succ])
        refine wpAnyH_ready (rs := [6]) (by kernel_rfl) (by simp) ?_
        refine AllReadyH.cons (o := ⟨some 24, _, _, _, _, _⟩) rfl (fun K hK => ?_) AllReadyH.nil
        rw [if_pos (by kernel_rfl)]
        go_simp
        go_at_call 51; refine (HWC.out _ hkq).mono ?_; rintro e wb ⟨rfl, hb7⟩
        have hkb := hkq.trans (hb7.mono hkq.size)
        refine hK.out _ _ ?_ (fun hHeld => ?_)
        · exact HSB.out _ hkb
        clear hK K
        (try simp only [Act.put, List.setIfInBounds_toArray, List.set_cons_zero, List.set_cons_succ])
        have z0 := (keep_loom HLM.out hkb).gap hdc
        have z1 : wb.frozen? ⟨R3, 2 + d, none⟩ = false := block_free (keep_loom HLM.out hkb)
        refine wpAnyH_take (i := 7) (oi := ⟨some 25, _, _, _, _, _⟩) (v := ?_) rfl (by kernel_rfl) (by kernel_rfl) (by kernel_rfl) (fun _ _ _ h => h) (Or.inl ⟨by kernel_rfl, ?_⟩) (by assumption) ?_
        rotate_left
        · (intro w hSw; (try dsimp only at hSw); go_simp; try with_reducible rfl)
        (try simp only [Act.put, List.setIfInBounds_toArray, List.set_cons_zero, List.set_cons_succ])
        refine wpAnyH_take (i := 9) (oi := ⟨some 27, _, _, _, _, _⟩) (v := ?_) rfl (by kernel_rfl) (by kernel_rfl) (by kernel_rfl) (fun _ _ _ h => h) (Or.inl ⟨by kernel_rfl, ?_⟩) (by assumption) ?_
        rotate_left
        · (intro w hSw; (try dsimp only at hSw); go_simp; try with_reducible rfl)
        (try simp only [Act.put, List.setIfInBounds_toArray, List.set_cons_zero, List.set_cons_succ])
        refine wpAnyH_ready (rs := [10]) (by kernel_rfl) (by simp) ?_
        refine AllReadyH.cons (o := ⟨none, _, _, _, _, _⟩) rfl (fun K hK => ?_) AllReadyH.nil
        rw [if_pos (by kernel_rfl)]
        go_simp
        refine hK.out _ _ ?_ (fun hHeld => ?_)
        · exact HSC2.out _ hkb _ _
        clear hK K
        (try simp only [Act.put, List.setIfInBounds_toArray, List.set_cons_zero, List.set_cons_succ])
        refine wpAnyH_done (by kernel_rfl) ?_ _
        have HA6 : Hid (Apart (fun b => b = R3) w4 (wb.setCell ⟨R3, 2 + d, none⟩ (.int .u64 (g1 : Int)))) := Lib.hid ((HAP.out.trans (Apart.of_below (F := fun b => b = R3) hkb) fun _ _ e => e).set (.inl rfl) _)
        have HL6 := Lib.hid ((keep_loom HLM.out hkb).setGap (c := d) (x := g1) hdc)
        obtain ⟨w6, hw6⟩ : ∃ w6, wb.setCell ⟨R3, 2 + d, none⟩ (.int .u64 (g1 : Int)) = w6 := ⟨_, rfl⟩
        rw [hw6] at HA6 HL6 ⊢
        have HB6 : Hid (Below w2.heap.size w2 w6) := Lib.hid (HB4.out.trans (HA6.out.below HB4.out.size fun b hb e => by have := HR3.out; omega))
        have HROW := Lib.hid (HRC.out w6 HB6.out)
        obtain ⟨r1, hr1⟩ : ∃ r1, rmN f m l d = r1 := ⟨_, rfl⟩
        rw [hr1] at HROW
        have HR1 := Lib.hid hr1
        obtain ⟨p0, p1, p2⟩ := HSA.out w6 HB6.out
        clear hw6 hkb hb7 z0 z1 hand hr1 hHeld hkq e0
        go_wp2_with fail
        refine HROW.out.mono ?_
        rintro e w7 ⟨rfl, hb8⟩
        have HA7 := Lib.hid (HA6.out.trans (Apart.of_below (F := fun b => b = R3) hb8) fun _ _ e => e)
        have HL7 := Lib.hid (keep_loom HL6.out hb8)
        have y0 := HL7.out.room hdc
        have y1 : w7.frozen? ⟨R3, 18 + d, none⟩ = false := block_free HL7.out
        have HA8 : Hid (Apart (fun b => b = R3) w4 (w7.setCell ⟨R3, 18 + d, none⟩ (.int .i64 (r1 : Int)))) := Lib.hid (HA7.out.set (.inl rfl) _)
        have HL8 : Hid (LoomIn (w7.setCell ⟨R3, 18 + d, none⟩ (.int .i64 (r1 : Int))) R3 f (.slice A n c) (partT (ticksI m 64) (gapT f m l) (i + 1)) (partT (ticksI m 64) (rmN f m l) (i + 1))) := Lib.hid (by
          have h := HL7.out.setRoom (c := d) (x := r1) hdc
          have e : ∀ j, partT (ticksI m 64) (gapT f m l) (i + 1) j = if j = d then g1 else partT (ticksI m 64) (gapT f m l) i j := fun j => by rw [HPG.out, HG1.out]
          have e2 : ∀ j, partT (ticksI m 64) (rmN f m l) (i + 1) j = if j = d then r1 else partT (ticksI m 64) (rmN f m l) i j := fun j => by rw [HPG.out, HR1.out]
          show _ = some (Obj.cells (loomC f (.slice A n c) _ _) 57 (0, 0))
          rw [loomC_congr (fun j _ => e j) (fun j _ => e2 j)]
          exact h)
        clear hb8 p0 p1 p2
        go_wp2_with fail
        rw [← hA2]
        go_roundg (n - (i + 1))
        case measure => have := HG.out; omega
        case rel => exact ⟨i + 1, by omega, rfl, by go_num, HA8, HL8⟩
      · have hin : i = n := by omega
        obtain ⟨LF, hLF⟩ : ∃ LF, loomC f (.slice A n c) (gapT f m l) (rmN f m l) = LF := ⟨_, rfl⟩
        have HLF : Hid (wr.heap[R3]? = some (.cells LF 57 (0, 0))) := Lib.hid (by
          have h := HLM.out
          have h' : wr.heap[R3]? = some (.cells (loomC f (.slice A n c) (partT (ticksI m 64) (gapT f m l) i) (partT (ticksI m 64) (rmN f m l) i)) 57 (0, 0)) := h
          rw [loomC_congr (g' := gapT f m l) (r' := rmN f m l) (fun j hj => partT_all (by rw [HNE.out]; omega) fun hno => gap_none fun hb => hno (ticks_mem (by omega) hb)) (fun j hj => partT_all (by rw [HNE.out]; omega) fun hno => rm_no hj fun hb => hno (ticks_mem (by omega) hb)), hLF] at h'
          exact h')
        have HSF : Hid ((Try.prog.info? 57).map (·.size) = some LF.size) := Lib.hid (by rw [← hLF]; exact Try.sizeLm _ _ _ _)
        have HF1 : Hid (LF.all (·.oneCell') = true) := Lib.hid (by rw [← hLF]; exact loomC_one _ _ _ _ _ _)
        have HZF : Hid (Z.size = LF.size) := Lib.hid (by rw [← hLF, HZL.out, loomC_size])
        have HR2W : Hid (wr.heap[R2]? = some (.cells Z 57 (0, 0))) := Lib.hid (keep_block HRB.out HBW.out)
        have HVE : Hid (IntsAt (wr.setRow R2 LF) (.slice A n c) (ticksI m 64)) := Lib.hid (by
          obtain ⟨A', c', hA', hlm, hcell⟩ := HV6.out wr HAP.out
          refine ⟨A', c', hA', hlm, fun hlen => ?_⟩
          obtain ⟨b, off, hAb, hbl, hcl⟩ := hcell hlen
          refine ⟨b, off, hAb, by rw [setRow_size]; exact hbl, fun j x hx => ?_⟩
          rw [cell_setRow_other _ _ _ _ (by
            show b ≠ R2
            intro e
            subst e
            have h3 := hcl j x hx
            have := (HBN.out hlen b (by rw [hA', hAb]; rfl)).2
            omega)]
          exact hcl j x hx)
        have HBE : Hid (Below w.heap.size w (wr.setRow R2 LF)) := Lib.hid (below_row (HB2.out.trans (HBW.out.mono HB2.out.size)) HPQ.out.2.1 _)
        have HLFE := Lib.hid hLF
        clear hLF
        go_wp2_with (first | refine wpList_load_row rfl _ _ rfl R3 rfl 57 LF (0, 0) _ HLF.out Try.underlying57 rfl HSF.out ?_ | refine wpList_store_row rfl _ _ _ rfl R2 LF rfl rfl 57 _ HR2W.out HSF.out HZF.out HF1.out ?_)
        refine bodyPost_ret (v := .agg LF) (results_cell_row rfl _ _ R2 _ _ _ _ rfl (setRow_heap _ _ _ _ _ _ HR2W.out) Try.underlying57 rfl HSF.out) rfl ?_
        exact ⟨A, n, c, by rw [HLFE.out], HNE.out, HVE.out, HBE.out⟩
  · intro K' hK
    (try simp only [Act.put, List.setIfInBounds_toArray, List.set_cons_zero, List.set_cons_succ])
    obtain ⟨wy, R3, hwz, hR3, hR3l, hbz, hry⟩ := box_any w2.drew Z 57
    refine wp_alloc_is _ rfl Z HZM.out ?_
    rw [hwz, hR3]
    have hky := hkd.trans (hbz.mono hkd.size)
    refine hK.out _ _ (HSA.out _ hky) (fun _ _ => trivial) ?_
    clear hK K'
    (try simp only [Act.put, List.setIfInBounds_toArray, List.set_cons_zero, List.set_cons_succ])
    refine wpAnyN_step (i := 3) (by kernel_rfl) rfl (by kernel_rfl) ?_
    intro K' hK
    (try simp only [Act.put, List.setIfInBounds_toArray, List.set_cons_zero, List.set_cons_succ])
    go_simp
    go_at_call 49; refine (HCO.out wy hky).mono ?_; rintro e wa ⟨v5, rfl, hv5, hb5, hfr5⟩
    obtain ⟨A, c, hvE, hl5, hat5⟩ := hv5
    obtain ⟨n, hn⟩ : ∃ n, (ticksI m 64).length = n := ⟨_, rfl⟩
    rw [hn] at hvE
    subst hvE
    have hkz := hky.trans (hb5.mono hky.size)
    refine hK.out _ _ (HSA.out _ hkz) (fun _ _ => trivial) ?_
    clear hK K'
    (try simp only [Act.put, List.setIfInBounds_toArray, List.set_cons_zero, List.set_cons_succ])
    obtain ⟨LC, hLC⟩ : ∃ LC, loomC f (.slice A n c) (fun _ => 0) (fun _ => 0) = LC := ⟨_, rfl⟩
    have HLC := Lib.hid hLC
    have HBL : Hid (Try.prog.built 57 [(0, .int .i64 f), (1, .slice A n c)] = some LC) := Lib.hid (by rw [← hLC]; exact Try.builtLm _ _ _ _)
    have HSC : Hid ((Try.prog.info? 57).map (·.size) = some LC.size) := Lib.hid (by rw [← hLC]; exact Try.sizeLm _ _ _ _)
    have HSZ : Hid (Z.size = LC.size) := Lib.hid (by rw [← hLC, HZL.out, loomC_size])
    have HC1 : Hid (LC.all (·.oneCell') = true) := Lib.hid (by rw [← hLC]; exact loomC_one _ _ _ _ _ _)
    clear hLC
    refine wpAnyN_take false (i := 4) (oi := ⟨some 10, _, _, _, _, _⟩) (v := .agg LC) rfl (by kernel_rfl) (by kernel_rfl) (by kernel_rfl) (fun _ _ _ h => h) (yieldsIf_build (by kernel_rfl) _ _ rfl [(0, .int .i64 f), (1, .slice A n c)] LC (by simp [Act.eval, Act.put]) HBL.out) ⟨HSA.out _ hkz, fun h => (by cases h)⟩ ?_
    (try simp only [Act.put, List.setIfInBounds_toArray, List.set_cons_zero, List.set_cons_succ])
    obtain ⟨wz, hwza⟩ : ∃ wz, wz = wa := ⟨_, rfl⟩
    subst hwza
    have hv6 : IntsAt wz (.slice A n c) (ticksI m 64) := ⟨A, c, by rw [hn], hl5, hat5⟩
    have hrz := keep_block hry hb5
    have hR3w : w2.heap.size ≤ R3 := by have := hkd.size; omega
    have hbn : 0 < (ticksI m 64).length → ∀ k, (Value.slice A n c).ownBlock = some k → k ≠ R3 ∧ R2 < k := fun hl k hk => by
      have h7 := hfr5 k hk
      have := HPQ.out
      have := hky.size
      omega
    refine wpAnyN_step (i := 6) (by kernel_rfl) rfl (by kernel_rfl) ?_
    intro K' hK
    (try simp only [Act.put, List.setIfInBounds_toArray, List.set_cons_zero, List.set_cons_succ])
    refine wp_store_row _ _ _ rfl R3 LC (by simp [Act.eval, Act.put]) (by simp [Act.eval, Act.put]) 57 Z hrz HSC.out HSZ.out HC1.out ?_
    refine hK.out _ _ (HSR.out _ hkz R3 hR3w _) (fun _ _ => trivial) ?_
    clear hK K'
    (try simp only [Act.put, List.setIfInBounds_toArray, List.set_cons_zero, List.set_cons_succ])
    refine wpAnyN_done (by kernel_rfl) ?_

    obtain ⟨w4, hw4⟩ : ∃ w4, wz.setRow R3 LC = w4 := ⟨_, rfl⟩
    have HB4 : Hid (Below w2.heap.size w2 w4) := Lib.hid (by rw [← hw4]; exact below_row hkz hR3w _)
    have HL4 : Hid (LoomIn w4 R3 f (.slice A n c) (partT (ticksI m 64) (gapT f m l) 0) (partT (ticksI m 64) (rmN f m l) 0)) := Lib.hid (by
      show w4.heap[R3]? = some (.cells (loomC f (.slice A n c) _ _) 57 (0, 0))
      rw [← hw4, loomC_congr (g' := fun _ => 0) (r' := fun _ => 0) (fun c _ => partT_zero _ _ c) (fun c _ => partT_zero _ _ c), HLC.out]
      exact setRow_heap _ _ _ _ _ _ hrz)
    have HV6 : Hid (∀ W, Apart (fun b => b = R3) w4 W → IntsAt W (.slice A n c) (ticksI m 64)) := Lib.hid (fun W ha => by
      obtain ⟨A', c', e', h1', h2'⟩ := hv6
      rw [hn] at e'
      obtain ⟨rfl, rfl⟩ : A = A' ∧ c = c' := by simp only [Value.slice.injEq, true_and] at e'; exact e'
      refine ⟨A, c, by rw [hn], h1', fun hlen => ?_⟩
      obtain ⟨b, off, hb, hbl, hcell⟩ := h2' hlen
      have hbne : b ≠ R3 := (hbn hlen b (by rw [hb]; rfl)).1
      refine ⟨b, off, hb, Nat.lt_of_lt_of_le (by rw [← hw4, setRow_size]; exact hbl) ha.size, fun j x hx => ?_⟩
      have h3 := hcell j x hx
      have h4 : w4.heap[b]? = wz.heap[b]? := by rw [← hw4]; exact setRow_other _ _ _ _ hbne
      have h5 := ha.block b (by rw [← hw4, setRow_size]; exact hbl) hbne
      rw [← h3]
      simp [World.cell?, h4, h5])
    have HPR : Hid (P < R3 ∧ R2 < R3) := Lib.hid (by have := HPQ.out; omega)
    have HNE := Lib.hid hn
    have HR3 := Lib.hid hR3w
    have HBN := Lib.hid hbn
    have hn64 : n ≤ 64 := by rw [← hn, ticksI_length]; exact cntT_le _ _
    rw [hw4]
    clear hw4 hv6 hkz hrz hn hR3w HBL HSC HSZ HC1 HLC hl5 hat5 hfr5 hbn hky hbz hb5 hwz hR3 hR3l hry
    have q0 := HL4.out.cores
    go_wp2_with fail
    clear q0
    go_loopg [5, 14] n (fun gg s5 s14 wr => ∃ i : Nat, i ≤ n ∧ gg = n - i ∧ s14 = .int .i64 i ∧ Hid (Apart (fun b => b = R3) w4 wr) ∧ Hid (LoomIn wr R3 f (.slice A n c) (partT (ticksI m 64) (gapT f m l) i) (partT (ticksI m 64) (rmN f m l) i)))
    case atStart => exact ⟨0, Nat.zero_le _, rfl, rfl, Lib.hid (Apart.refl _ _), HL4⟩
    case round =>
      obtain ⟨i, hi, hgg, rfl, HAP, HLM⟩ := hrel
      have HG := Lib.hid hgg
      have HBW : Hid (Below w2.heap.size w2 wr) := Lib.hid (HB4.out.trans (HAP.out.below HB4.out.size fun b hb e => by have := HR3.out; omega))
      clear hgg
      by_cases hlt : i < n
      · have hltz : (i : Int) < (n : Int) := by omega
        have hi0 : (0 : Int) ≤ (i : Int) := by omega
        obtain ⟨x, hx⟩ : ∃ x, (ticksI m 64)[i]? = some x := ⟨_, List.getElem?_eq_getElem (by rw [HNE.out]; exact hlt)⟩
        obtain ⟨d, rfl, hd64, hbd⟩ := ticks_is hx
        have hdc : d < 16 := by
          rcases Nat.lt_or_ge d 16 with h1 | h1
          · exact h1
          · rw [Nat.testBit_lt_two_pow (Nat.lt_of_lt_of_le HM16.out (show 65536 ≤ 2 ^ d from Nat.pow_le_pow_right (n := 2) (by decide) h1))] at hbd
            cases hbd
        have hd0 : (0 : Int) ≤ (d : Int) := by omega
        have hd16 : (d : Int) < 16 := by omega
        obtain ⟨A', c', hA', hlm, hcell⟩ := HV6.out wr HAP.out
        obtain ⟨b, off, hAb, hbl, hcl⟩ := hcell (by rw [HNE.out]; omega)
        have e0 := hcl i _ hx
        rw [hAb] at hA'
        have hA2 : A = some ⟨b, off, none⟩ := by simp only [Value.slice.injEq] at hA'; exact hA'.1
        rw [hA2]
        have HXI := Lib.hid hx
        have HBD := Lib.hid hbd
        have HPG := Lib.hid (fun F => partT_succ (F := F) hx)
        have HWC := Lib.hid (fun W (hk : Below wr.heap.size wr W) => HWI.out (d : Int) (by rw [hasC_nat hdc]; exact HBD.out) W (HBW.out.trans (hk.mono HBW.out.size)))
        have HRC := Lib.hid (fun W (hk : Below w2.heap.size w2 W) => HRO.out d hdc W hk)
        have HSB : Hid (∀ W, Below wr.heap.size wr W → W.cell? ⟨P, 0, none⟩ = some (.int .i64 f) ∧ W.cell? ⟨P, 1, none⟩ = some (.int .u32 m) ∧ W.cell? ⟨P, 2, none⟩ = some v) := Lib.hid (fun W hk => HSA.out W (HBW.out.trans (hk.mono HBW.out.size)))
        have HSC2 : Hid (∀ W, Below wr.heap.size wr W → ∀ k (u : Value), (W.setCell ⟨R3, k, none⟩ u).cell? ⟨P, 0, none⟩ = some (.int .i64 f) ∧ (W.setCell ⟨R3, k, none⟩ u).cell? ⟨P, 1, none⟩ = some (.int .u32 m) ∧ (W.setCell ⟨R3, k, none⟩ u).cell? ⟨P, 2, none⟩ = some v) := Lib.hid (fun W hk k u => HSD.out W (HBW.out.trans (hk.mono HBW.out.size)) R3 k u (by have := HPR.out; omega))
        obtain ⟨a1, ha1⟩ : ∃ a1, allN f.toNat = a1 := ⟨_, rfl⟩
        obtain ⟨b1, hb1⟩ : ∃ b1, winN (pcsOf l) (d : Int) = b1 := ⟨_, rfl⟩
        obtain ⟨g1, hg1⟩ : ∃ g1, gapT f m l d = g1 := ⟨_, rfl⟩
        have hand : bits BinOp.andNot IntKind.u64 (a1 : Int) (b1 : Int) = (g1 : Int) := by
          rw [andNot_word a1 b1 (by rw [← ha1]; exact allN_lt HF64.out) (by rw [← hb1]; exact winN_lt _ _), ← ha1, ← hb1, ← hg1, gap_less HBD.out]
        have HG1 := Lib.hid hg1
        rw [ha1] at HAL
        rw [hb1] at HWC
        have hkq : Below wr.heap.size wr wr.drew := (Below.refl _ _).drew
        clear hcell hcl hA' hAb hlm hx hbd ha1 hb1 hg1
        go_wp2_with fail
        refine wp_region_held_drew (S := fun w' => w'.cell? ⟨P, 0, none⟩ = some (.int .i64 f) ∧ w'.cell? ⟨P, 1, none⟩ = some (.int .u32 m) ∧ w'.cell? ⟨P, 2, none⟩ = some (v)) (by kernel_rfl) ?_ (fun hHeld => ?_)
        · exact HSB.out _ hkq
        refine wpAnyH_take (i := 0) (oi := ⟨some 18, _, _, _, _, _⟩) (v := ?_) rfl (by kernel_rfl) (by kernel_rfl) (by kernel_rfl) (fun _ _ _ h => h) (Or.inl ⟨by kernel_rfl, ?_⟩) (by assumption) ?_
        rotate_left
        · (intro w hSw; (try dsimp only at hSw); go_simp; try with_reducible rfl)
        (try simp only [Act.put, List.setIfInBounds_toArray, List.set_cons_zero, List.set_cons_succ])
        refine wpAnyH_take (i := 1) (oi := ⟨some 19, _, _, _, _, _⟩) (v := ?_) rfl (by kernel_rfl) (by kernel_rfl) (by kernel_rfl) (fun _ _ _ h => h) (Or.inl ⟨by kernel_rfl, ?_⟩) (by assumption) ?_
        rotate_left
        · (intro w hSw; (try dsimp only at hSw); go_simp; try with_reducible rfl)
        (try simp only [Act.put, List.setIfInBounds_toArray, List.set_cons_zero, List.set_cons_succ])
        refine wpAnyH_take (i := 2) (oi := ⟨some 20, _, _, _, _, _⟩) (v := ?_) rfl (by kernel_rfl) (by kernel_rfl) (by kernel_rfl) (fun _ _ _ h => h) (Or.inl ⟨by kernel_rfl, ?_⟩) (by assumption) ?_
        rotate_left
        · (intro w hSw; (try dsimp only at hSw); go_simp; try with_reducible rfl)
        (try simp only [Act.put, List.setIfInBounds_toArray, List.set_cons_zero, List.set_cons_succ])
        refine wpAnyH_take (i := 4) (oi := ⟨some 22, _, _, _, _, _⟩) (v := ?_) rfl (by kernel_rfl) (by kernel_rfl) (by kernel_rfl) (fun _ _ _ h => h) (Or.inl ⟨by kernel_rfl, ?_⟩) (by assumption) ?_
        rotate_left
        · (intro w hSw; (try dsimp only at hSw); go_simp; try with_reducible rfl)
        (try simp only [Act.put, List.setIfInBounds_toArray, List.set_cons_zero, List.set_cons_succ])
        refine wpAnyH_take (i := 5) (oi := ⟨some 23, _, _, _, _, _⟩) (v := ?_) rfl (by kernel_rfl) (by kernel_rfl) (by kernel_rfl) (fun _ _ _ h => h) (Or.inl ⟨by kernel_rfl, ?_⟩) (by assumption) ?_
        rotate_left
        · (intro w hSw; (try dsimp only at hSw); go_simp; try with_reducible rfl)
        (try simp only [Act.put, List.setIfInBounds_toArray, List.set_cons_zero, List.set_cons_succ])
        refine wpAnyH_take (i := 8) (oi := ⟨some 26, _, _, _, _, _⟩) (v := ?_) rfl (by kernel_rfl) (by kernel_rfl) (by kernel_rfl) (fun _ _ _ h => h) (Or.inl ⟨by kernel_rfl, ?_⟩) (by assumption) ?_
        rotate_left
        · (intro w hSw; (try dsimp only at hSw); go_simp; try with_reducible rfl)
        (try simp only [Act.put, List.setIfInBounds_toArray, List.set_cons_zero, List.set_cons_succ])
        refine wpAnyH_ready (rs := [3]) (by kernel_rfl) (by simp) ?_
        refine AllReadyH.cons (o := ⟨some 21, _, _, _, _, _⟩) rfl (fun K hK => ?_) AllReadyH.nil
        rw [if_pos (by kernel_rfl)]
        go_simp
        go_at_call 50; refine (HAL.out _).mono ?_; rintro e wb ⟨rfl, rfl⟩
        refine hK.out _ _ ?_ (fun hHeld => ?_)
        · exact HSB.out _ hkq
        clear hK K
        (try simp only [Act.put, List.setIfInBounds_toArray, List.set_cons_zero, List.set_cons_succ])
        refine wpAnyH_ready (rs := [6]) (by kernel_rfl) (by simp) ?_
        refine AllReadyH.cons (o := ⟨some 24, _, _, _, _, _⟩) rfl (fun K hK => ?_) AllReadyH.nil
        rw [if_pos (by kernel_rfl)]
        go_simp
        go_at_call 51; refine (HWC.out _ hkq).mono ?_; rintro e wb ⟨rfl, hb7⟩
        have hkb := hkq.trans (hb7.mono hkq.size)
        refine hK.out _ _ ?_ (fun hHeld => ?_)
        · exact HSB.out _ hkb
        clear hK K
        (try simp only [Act.put, List.setIfInBounds_toArray, List.set_cons_zero, List.set_cons_succ])
        have z0 := (keep_loom HLM.out hkb).gap hdc
        have z1 : wb.frozen? ⟨R3, 2 + d, none⟩ = false := block_free (keep_loom HLM.out hkb)
        refine wpAnyH_take (i := 7) (oi := ⟨some 25, _, _, _, _, _⟩) (v := ?_) rfl (by kernel_rfl) (by kernel_rfl) (by kernel_rfl) (fun _ _ _ h => h) (Or.inl ⟨by kernel_rfl, ?_⟩) (by assumption) ?_
        rotate_left
        · (intro w hSw; (try dsimp only at hSw); go_simp; try with_reducible rfl)
        (try simp only [Act.put, List.setIfInBounds_toArray, List.set_cons_zero, List.set_cons_succ])
        refine wpAnyH_take (i := 9) (oi := ⟨some 27, _, _, _, _, _⟩) (v := ?_) rfl (by kernel_rfl) (by kernel_rfl) (by kernel_rfl) (fun _ _ _ h => h) (Or.inl ⟨by kernel_rfl, ?_⟩) (by assumption) ?_
        rotate_left
        · (intro w hSw; (try dsimp only at hSw); go_simp; try with_reducible rfl)
        (try simp only [Act.put, List.setIfInBounds_toArray, List.set_cons_zero, List.set_cons_succ])
        refine wpAnyH_ready (rs := [10]) (by kernel_rfl) (by simp) ?_
        refine AllReadyH.cons (o := ⟨none, _, _, _, _, _⟩) rfl (fun K hK => ?_) AllReadyH.nil
        rw [if_pos (by kernel_rfl)]
        go_simp
        refine hK.out _ _ ?_ (fun hHeld => ?_)
        · exact HSC2.out _ hkb _ _
        clear hK K
        (try simp only [Act.put, List.setIfInBounds_toArray, List.set_cons_zero, List.set_cons_succ])
        refine wpAnyH_done (by kernel_rfl) ?_ _
        have HA6 : Hid (Apart (fun b => b = R3) w4 (wb.setCell ⟨R3, 2 + d, none⟩ (.int .u64 (g1 : Int)))) := Lib.hid ((HAP.out.trans (Apart.of_below (F := fun b => b = R3) hkb) fun _ _ e => e).set (.inl rfl) _)
        have HL6 := Lib.hid ((keep_loom HLM.out hkb).setGap (c := d) (x := g1) hdc)
        obtain ⟨w6, hw6⟩ : ∃ w6, wb.setCell ⟨R3, 2 + d, none⟩ (.int .u64 (g1 : Int)) = w6 := ⟨_, rfl⟩
        rw [hw6] at HA6 HL6 ⊢
        have HB6 : Hid (Below w2.heap.size w2 w6) := Lib.hid (HB4.out.trans (HA6.out.below HB4.out.size fun b hb e => by have := HR3.out; omega))
        have HROW := Lib.hid (HRC.out w6 HB6.out)
        obtain ⟨r1, hr1⟩ : ∃ r1, rmN f m l d = r1 := ⟨_, rfl⟩
        rw [hr1] at HROW
        have HR1 := Lib.hid hr1
        obtain ⟨p0, p1, p2⟩ := HSA.out w6 HB6.out
        clear hw6 hkb hb7 z0 z1 hand hr1 hHeld hkq e0
        go_wp2_with fail
        refine HROW.out.mono ?_
        rintro e w7 ⟨rfl, hb8⟩
        have HA7 := Lib.hid (HA6.out.trans (Apart.of_below (F := fun b => b = R3) hb8) fun _ _ e => e)
        have HL7 := Lib.hid (keep_loom HL6.out hb8)
        have y0 := HL7.out.room hdc
        have y1 : w7.frozen? ⟨R3, 18 + d, none⟩ = false := block_free HL7.out
        have HA8 : Hid (Apart (fun b => b = R3) w4 (w7.setCell ⟨R3, 18 + d, none⟩ (.int .i64 (r1 : Int)))) := Lib.hid (HA7.out.set (.inl rfl) _)
        have HL8 : Hid (LoomIn (w7.setCell ⟨R3, 18 + d, none⟩ (.int .i64 (r1 : Int))) R3 f (.slice A n c) (partT (ticksI m 64) (gapT f m l) (i + 1)) (partT (ticksI m 64) (rmN f m l) (i + 1))) := Lib.hid (by
          have h := HL7.out.setRoom (c := d) (x := r1) hdc
          have e : ∀ j, partT (ticksI m 64) (gapT f m l) (i + 1) j = if j = d then g1 else partT (ticksI m 64) (gapT f m l) i j := fun j => by rw [HPG.out, HG1.out]
          have e2 : ∀ j, partT (ticksI m 64) (rmN f m l) (i + 1) j = if j = d then r1 else partT (ticksI m 64) (rmN f m l) i j := fun j => by rw [HPG.out, HR1.out]
          show _ = some (Obj.cells (loomC f (.slice A n c) _ _) 57 (0, 0))
          rw [loomC_congr (fun j _ => e j) (fun j _ => e2 j)]
          exact h)
        clear hb8 p0 p1 p2
        go_wp2_with fail
        rw [← hA2]
        go_roundg (n - (i + 1))
        case measure => have := HG.out; omega
        case rel => exact ⟨i + 1, by omega, rfl, by go_num, HA8, HL8⟩
      · have hin : i = n := by omega
        obtain ⟨LF, hLF⟩ : ∃ LF, loomC f (.slice A n c) (gapT f m l) (rmN f m l) = LF := ⟨_, rfl⟩
        have HLF : Hid (wr.heap[R3]? = some (.cells LF 57 (0, 0))) := Lib.hid (by
          have h := HLM.out
          have h' : wr.heap[R3]? = some (.cells (loomC f (.slice A n c) (partT (ticksI m 64) (gapT f m l) i) (partT (ticksI m 64) (rmN f m l) i)) 57 (0, 0)) := h
          rw [loomC_congr (g' := gapT f m l) (r' := rmN f m l) (fun j hj => partT_all (by rw [HNE.out]; omega) fun hno => gap_none fun hb => hno (ticks_mem (by omega) hb)) (fun j hj => partT_all (by rw [HNE.out]; omega) fun hno => rm_no hj fun hb => hno (ticks_mem (by omega) hb)), hLF] at h'
          exact h')
        have HSF : Hid ((Try.prog.info? 57).map (·.size) = some LF.size) := Lib.hid (by rw [← hLF]; exact Try.sizeLm _ _ _ _)
        have HF1 : Hid (LF.all (·.oneCell') = true) := Lib.hid (by rw [← hLF]; exact loomC_one _ _ _ _ _ _)
        have HZF : Hid (Z.size = LF.size) := Lib.hid (by rw [← hLF, HZL.out, loomC_size])
        have HR2W : Hid (wr.heap[R2]? = some (.cells Z 57 (0, 0))) := Lib.hid (keep_block HRB.out HBW.out)
        have HVE : Hid (IntsAt (wr.setRow R2 LF) (.slice A n c) (ticksI m 64)) := Lib.hid (by
          obtain ⟨A', c', hA', hlm, hcell⟩ := HV6.out wr HAP.out
          refine ⟨A', c', hA', hlm, fun hlen => ?_⟩
          obtain ⟨b, off, hAb, hbl, hcl⟩ := hcell hlen
          refine ⟨b, off, hAb, by rw [setRow_size]; exact hbl, fun j x hx => ?_⟩
          rw [cell_setRow_other _ _ _ _ (by
            show b ≠ R2
            intro e
            subst e
            have h3 := hcl j x hx
            have := (HBN.out hlen b (by rw [hA', hAb]; rfl)).2
            omega)]
          exact hcl j x hx)
        have HBE : Hid (Below w.heap.size w (wr.setRow R2 LF)) := Lib.hid (below_row (HB2.out.trans (HBW.out.mono HB2.out.size)) HPQ.out.2.1 _)
        have HLFE := Lib.hid hLF
        clear hLF
        go_wp2_with (first | refine wpList_load_row rfl _ _ rfl R3 rfl 57 LF (0, 0) _ HLF.out Try.underlying57 rfl HSF.out ?_ | refine wpList_store_row rfl _ _ _ rfl R2 LF rfl rfl 57 _ HR2W.out HSF.out HZF.out HF1.out ?_)
        refine bodyPost_ret (v := .agg LF) (results_cell_row rfl _ _ R2 _ _ _ _ rfl (setRow_heap _ _ _ _ _ _ HR2W.out) Try.underlying57 rfl HSF.out) rfl ?_
        exact ⟨A, n, c, by rw [HLFE.out], HNE.out, HVE.out, HBE.out⟩
end Go.Proofs.Ytkgkanmccaodfaa

/-
  The first core that has room, as the program tells it of any plan.
  Conditions: the slice reads as places; the numbers are of their kinds.
-/
set_option linter.unusedVariables false
set_option linter.unusedSimpArgs false
namespace Go.Proofs.Ytkgkanmccaodfaa
open Go.RowKit

set_option maxRecDepth 100000 in
set_option maxHeartbeats 4000000 in
theorem firstP_yes (f : Int) (m : Nat) (v : Value) (l : List Pl) (s : Int) (w : World) (h : PlsAt w v l) (hL : LightL l) (hr : Right f m l) (hs : 1 ≤ s) :
    Calls Try.prog 57 #[planA f m v, .int .i64 s] w (RetB (.tuple #[.int .i64 (coreV (firstR f m l s)), .bool (firstR f m l s).isSome]) w) := by
  have hm := hr.m16
  have HPC := Lib.hid (fun w h => planCheck_any f m v l w h hL.wide (by omega))
  have HFI := Lib.hid (fun w h => first_any f m v l s w h hL hr hs)
  have HR := Lib.hid hr
  have HH := Lib.hid h
  unfold planA at HPC HFI
  obtain ⟨w1, P, hw1, hP, hPl, hb1, hbox⟩ := box_any w #[.int .i64 f, .int .u32 m, v] 25
  have HB1 := Lib.hid hb1
  have HBOX := Lib.hid hbox
  obtain ⟨r0, r1, r2⟩ := three_heads hbox
  have hsd : decide (s < 1) = false := decide_eq_false (by omega)
  generalize coreV (firstR f m l s) = c at *
  generalize (firstR f m l s).isSome = b at *
  clear h hL hr hm hb1 hbox
  unfold planA
  go_enter Try.func57, Try.ntmps57
  go_wp2_with fail
  refine (HPC.out _ (HH.out.keep HB1.out)).mono ?_
  rintro e w2 ⟨E, rfl, _, hiff, hb2⟩
  have hE : E = 0 := hiff.2 HR.out
  subst hE
  have HB2 := Lib.hid (HB1.out.trans (hb2.mono HB1.out.size))
  have HBX2 := Lib.hid (keep_block HBOX.out hb2)
  clear hb2 hiff r0 r1 r2 hw1 hP
  obtain ⟨r0, r1, r2⟩ := three_heads HBX2.out
  go_wp2_with fail
  refine (HFI.out _ (HH.out.keep HB2.out)).mono ?_
  rintro e w3 ⟨rfl, hb3⟩
  have HB3 := Lib.hid (HB2.out.trans (hb3.mono HB2.out.size))
  clear hb3
  go_wp2_with fail
  go_ret2
  exact ⟨rfl, HB3.out⟩

set_option maxRecDepth 100000 in
set_option maxHeartbeats 4000000 in
theorem firstP_no (f : Int) (m : Nat) (v : Value) (l : List Pl) (s : Int) (w : World) (h : PlsAt w v l) (hL : LightL l) (hm : m < 4294967296) (hn : s < 1 ∨ ¬ Right f m l) :
    Calls Try.prog 57 #[planA f m v, .int .i64 s] w (RetB (.tuple #[.int .i64 0, .bool false]) w) := by
  have HPC := Lib.hid (fun w h => planCheck_any f m v l w h hL.wide hm)
  have HH := Lib.hid h
  unfold planA at HPC
  obtain ⟨w1, P, hw1, hP, hPl, hb1, hbox⟩ := box_any w #[.int .i64 f, .int .u32 m, v] 25
  have HB1 := Lib.hid hb1
  obtain ⟨r0, r1, r2⟩ := three_heads hbox
  clear h hL hb1 hbox
  unfold planA
  by_cases hs : s < 1
  · have hsd : decide (s < 1) = true := decide_eq_true hs
    clear hn
    go_enter Try.func57, Try.ntmps57
    go_wp2_with fail
    go_ret2
    exact ⟨rfl, HB1.out⟩
  · have hsd : decide (s < 1) = false := decide_eq_false hs
    have HNR := Lib.hid (hn.resolve_left hs)
    clear hn
    go_enter Try.func57, Try.ntmps57
    go_wp2_with fail
    refine (HPC.out _ (HH.out.keep HB1.out)).mono ?_
    rintro e w2 ⟨E, rfl, hE, hiff, hb2⟩
    have hE30 : E = 30 := hE.resolve_left fun e => HNR.out (hiff.1 e)
    subst hE30
    have HB2 := Lib.hid (HB1.out.trans (hb2.mono HB1.out.size))
    clear hb2 hiff hE r0 r1 r2
    go_wp2_with fail
    go_ret2
    exact ⟨rfl, HB2.out⟩
end Go.Proofs.Ytkgkanmccaodfaa
