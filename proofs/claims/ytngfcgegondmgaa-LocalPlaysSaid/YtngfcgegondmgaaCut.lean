/-
  slices.Delete of one member: a row of members of the caller's own.
  Conditions: the row is of the caller's own.
-/
import Derived.Test.YtngfcgegondmgaaFind
import Derived.Lib.SliceRun
set_option linter.unusedVariables false
namespace Go.Proofs.Ytngfcgegondmgaa
open Go.RowKit Go.Proofs

def cutAt (l : List Lm) (k : Nat) : List Lm := l.take k ++ l.drop (k + 1)
theorem cut_erase : ∀ (l : List Lm) (k : Nat), l.eraseIdx k = cutAt l k
  | [], k => by simp [cutAt]
  | x :: l, 0 => by simp [cutAt]
  | x :: l, k + 1 => by
    have := cut_erase l k
    unfold cutAt at *
    simp [this]
/-- What a call answers that changes a row of its caller's. -/
def RetM (base e : Nat) (v : Value) (l : List Lm) (w : World) (en : Ending) (w' : World) : Prop := ∃ v', en = .returned v' ∧ w'.ownsRow base e 3 v' l.length (rowC l) ∧ Apart (fun k => v.ownBlock = some k) w w' ∧ Grew w v v'
theorem apart_grown {w w' : World} {row : Option Nat} (hg : w.drew.grownBy w' row) : Apart (fun k => row = some k) w w' := ⟨hg.os, hg.tape, hg.output, hg.size, fun k hk hn => hg.block k hk (fun e => hn e.symm)⟩
/-- append in a region that draws, by its run. -/
theorem step_append_runI {ops : Array Oper} {o : Oper} {a : Act} {w : World} {K : Act → World → Prop} {Q : Exit → Act → World → Prop} {E : Prop}
    (hg : o.guard = none) (d x : Operand) (dT sT : TypeId) (hop : o.op = Op.call { callee := Callee.builtin Builtin.append, args := #[d, x], argTypes := #[dT, sT] })
    (v u : Value) (hd : a.eval d = v) (hx : a.eval x = u) {v' : Value} {w' : World} (hr : (Builtin.append_ #[dT, sT] o.type #[v, u]).run Try.prog w = .ok v' w') (hK : K (a.put o.dst v') w') :
    if Region.wanted o (yielded ops a.tmps) = true then Oper.wp Try.prog o a w K Q else E := by
  have hw : Region.wanted o (yielded ops a.tmps) = true := by simp [Region.wanted, hg]
  rw [if_pos hw]
  unfold Oper.wp
  simp [execOp, hop, resolve, invoke, builtin, hd, hx, hr, Result.andThen]
  exact hK
theorem own3_short {W : World} {base e g n cap i : Nat} {xs : List Value} (h : W.ownsRow base e 3 (.slice (some ⟨g, 0, none⟩) n cap) n xs) (hi : i ≤ n) :
    W.ownsRow base e 3 (.slice (some ⟨g, 0, none⟩) i cap) i (xs.take (i * 3)) := by
  obtain ⟨h1, h2⟩ := h
  refine ⟨by rw [List.length_take]; omega, ?_⟩
  rcases h2 with ⟨h0, _⟩ | ⟨g', cap', cur, hv, hg, hh, hn, hc, hs, ht⟩
  · cases h0
  · injection hv with e1 e2 e3
    injection e1 with e1
    injection e1 with e1
    subst e1 e3
    exact .inr ⟨g, cap, cur, rfl, hg, hh, by omega, hc, hs, by rw [← ht, List.take_take, Nat.min_eq_left (by omega)]⟩
theorem own_past {base e g n cap : Nat} : ∀ (us : List Value) (k : Nat) (W : World) (xs : List Value), n * 3 ≤ k → W.ownsRow base e 3 (.slice (some ⟨g, 0, none⟩) n cap) n xs →
    (W.setCells g k us).ownsRow base e 3 (.slice (some ⟨g, 0, none⟩) n cap) n xs
  | [], k, W, xs, _, h => h
  | u :: r, k, W, xs, hk, h => by
    have h' := ownK_set (k := k) h u
    rw [List.set_eq_of_length_le (by rw [h.1]; exact hk)] at h'
    exact own_past r (k + 1) _ _ (by omega) h'
theorem apart_cells {F : Nat → Prop} {a : World} (b : Nat) (hb : F b) : ∀ (us : List Value) (k : Nat) (W : World), Apart F a W → Apart F a (W.setCells b k us)
  | [], k, W, h => h
  | u :: r, k, W, h => apart_cells b hb r (k + 1) _ (h.set (p := ⟨b, k, none⟩) (.inl hb) u)
theorem own_caps {W : World} {base e g n cap : Nat} {xs : List Value} (h : W.ownsRow base e 3 (.slice (some ⟨g, 0, none⟩) n cap) n xs) : (∀ j, j < cap * 3 → (W.cell? ⟨g, j, none⟩).isSome = true) ∧ ∀ j, W.frozen? ⟨g, j, none⟩ = false := by
  rcases h.2 with ⟨h0, _⟩ | ⟨g', cap', cur, hv, hg, hh, hn, hc, hs, ht⟩
  · cases h0
  · injection hv with e1 e2 e3
    injection e1 with e1
    injection e1 with e1
    subst e1 e3
    refine ⟨fun j hj => ?_, fun j => by simp [World.frozen?, hh]⟩
    rw [cell_of_row W g j _ _ (0, 0) hh, Array.getElem?_eq_getElem (by omega)]
    rfl
/-- clear of a slice of members. -/
theorem run_clear_mb {P : Program} (w : World) (t e : TypeId) (ht : P.underlying t = some (.slice e)) (hv : ∀ w, (zeroValue e).run P w = .ok (.agg #[.int .i64 0, .int .i64 0, .int .i64 0]) w) (b o n c : Nat) (hn : 0 < n)
    (hc : ∀ j, j < n * 3 → (w.cell? ⟨b, o + j, none⟩).isSome = true) (hf : ∀ j, j < n * 3 → w.frozen? ⟨b, o + j, none⟩ = false) :
    ∃ us, ∀ ty, (Builtin.clear_ #[t] ty #[.slice (some ⟨b, o, none⟩) n c]).run P w = .ok (.tuple #[]) (w.setCells b o us) := by
  have hcell : (Value.agg #[.int .i64 0, .int .i64 0, .int .i64 0]).cells = #[.int .i64 0, .int .i64 0, .int .i64 0] := rfl
  refine ⟨(Builtin.zeroCells #[.int .i64 0, .int .i64 0, .int .i64 0] n).toList, fun ty => ?_⟩
  have hlen : (Builtin.zeroCells #[.int .i64 0, .int .i64 0, .int .i64 0] n).toList.length = n * 3 := by simp [Builtin.zeroCells]
  have hst := run_storeCells_cells (P := P) b o (Builtin.zeroCells #[.int .i64 0, .int .i64 0, .int .i64 0] n).toList 0 w (by rw [hlen]; simpa using hc) (by rw [hlen]; simpa using hf) (by
    intro v hv'
    simp only [Builtin.zeroCells, Array.toList_map, List.mem_map] at hv'
    obtain ⟨i, _, rfl⟩ := hv'
    have h4 : i % 3 = 0 ∨ i % 3 = 1 ∨ i % 3 = 2 := by omega
    rcases h4 with h | h | h <;> (simp [h]; rfl))
  simp only [Nat.add_zero] at hst
  obtain ⟨m, rfl⟩ : ∃ m, n = m + 1 := ⟨n - 1, by omega⟩
  simp [Builtin.clear_, run_underlying ht, hv, hcell, hst]

set_option maxHeartbeats 4000000 in
set_option maxRecDepth 100000 in
theorem deleteM_any (base : Nat) (v : Value) (l : List Lm) (k : Nat) (w : World) (h : w.ownsRow base 67 3 v l.length (rowC l)) (hk : k < l.length) (hl : l.length ≤ 1000) :
    Calls Try.prog 33 #[v, .int .i64 k, .int .i64 ((k : Int) + 1)] w (RetM base 67 v (cutAt l k) w) := by
  obtain ⟨i0, hi, hz0, hz1, hz2⟩ := info_parts Try.infoMb
  obtain ⟨g, cap, rfl, hbg, hgl, hncap, hcm, hat, _⟩ := own3_lies h (by omega)
  obtain ⟨n, hn⟩ : ∃ n, l.length = n + 1 := ⟨l.length - 1, by omega⟩
  rw [hn] at h hk hl hncap
  have hS := rowC_length l
  have hcm' : cap ≤ 9223372036854775807 := by unfold maxLen at hcm; omega
  obtain ⟨q, hq⟩ : ∃ q, n - k = q := ⟨_, rfl⟩
  have hdl : (rowC (l.drop (k + 1))).length = q * 3 := by rw [rowC_length, List.length_drop]; omega
  have hcl : (cutAt l k).length = n := by unfold cutAt; rw [List.length_append, List.length_take, List.length_drop]; omega
  have hrow : rowC (cutAt l k) = (rowC l).take (k * 3) ++ rowC (l.drop (k + 1)) := by unfold cutAt; rw [rowC_append, rowC_take]
  have key : ∀ A : Addr, (∀ j u, (rowC (l.drop (k + 1)))[j]? = some u → w.cell? (A.add j) = some u) → ∃ w1, (Builtin.append_ #[60, 60] 60 #[.slice (some ⟨g, 0, none⟩) k cap, .slice (some A) (n - k) (cap - (k + 1))]).run Try.prog w.drew = .ok (.slice (some ⟨g, 0, none⟩) n cap) w1 ∧
      w1.ownsRow base 67 3 (.slice (some ⟨g, 0, none⟩) n cap) n (rowC (cutAt l k)) ∧ Apart (fun k => (some g : Option Nat) = some k) w w1 := fun A hA => by
    obtain ⟨w1, h1, h2, h3⟩ := run_append_fits (P := Try.prog) w.drew base 60 60 67 i0 3 Try.underlying60 hi hz1 g k cap _ (own3_short h (show k ≤ n + 1 by omega)) A q (cap - (k + 1)) (rowC (l.drop (k + 1))) hdl hA (rowC_one _) (by omega)
    rw [show k + q = n by omega] at h1 h2
    rw [← hq] at h1
    rw [← hrow] at h2
    exact ⟨w1, h1, h2, apart_grown h3⟩
  have hfar : ∀ j u, (rowC (l.drop (k + 1)))[j]? = some u → w.cell? ((⟨g, (k + 1) * 3, none⟩ : Addr).add j) = some u := fun j u hj => by
    rw [Addr.add_lit]
    rw [← rowC_drop, List.getElem?_drop] at hj
    rcases h.2 with ⟨h0, _⟩ | ⟨g', cap', cur, hv, _, hh, _, _, hs, ht⟩
    · cases h0
    · injection hv with e1 e2 e3
      injection e1 with e1
      injection e1 with e1
      subst e1 e3
      rw [cell_of_row w g _ _ _ (0, 0) hh, ← Array.getElem?_toList]
      rw [← ht] at hj
      by_cases hjn : (k + 1) * 3 + j < (n + 1) * 3
      · rwa [List.getElem?_take_of_lt hjn] at hj
      · rw [List.getElem?_take_eq_none (by omega)] at hj; cases hj
  obtain ⟨A, hA, w1, hrun, hown1, hap⟩ : ∃ A : Addr, A = (if cap = k + 1 then (⟨g, 0, none⟩ : Addr) else ⟨g, (k + 1) * 3, none⟩) ∧ ∃ w1, (Builtin.append_ #[60, 60] 60 #[.slice (some ⟨g, 0, none⟩) k cap, .slice (some A) (n - k) (cap - (k + 1))]).run Try.prog w.drew = .ok (.slice (some ⟨g, 0, none⟩) n cap) w1 ∧
      w1.ownsRow base 67 3 (.slice (some ⟨g, 0, none⟩) n cap) n (rowC (cutAt l k)) ∧ Apart (fun k => (some g : Option Nat) = some k) w w1 := by
    refine ⟨_, rfl, ?_⟩
    by_cases hc : cap = k + 1
    · rw [if_pos hc]
      refine key _ fun j u hj => ?_
      have := (List.getElem?_eq_some_iff.1 hj).1
      omega
    · rw [if_neg hc]
      exact key _ hfar
  obtain ⟨hcc, hff⟩ := own_caps hown1
  obtain ⟨us, hus⟩ := run_clear_mb w1 60 67 Try.underlying60 Try.zeroValue67 g (n * 3) 1 (cap - n) (by omega) (fun j hj => hcc _ (by omega)) (fun j _ => hff _)
  have HEND : Hid (RetM base 67 (.slice (some ⟨g, 0, none⟩) (n + 1) cap) (cutAt l k) w (.returned (.slice (some ⟨g, 0, none⟩) n cap)) (w1.setCells g (n * 3) us)) :=
    ⟨_, rfl, by rw [hcl]; exact own_past us (n * 3) w1 _ (Nat.le_refl _) hown1, apart_cells (F := fun k => (some g : Option Nat) = some k) g rfl us _ _ hap, fun x hx => .inl hx⟩
  rw [hn]
  clear key hfar h hat hcc hff hown1 hap hS hdl hcl hrow hn hq hi hz0 hz1 hz2
  have mixed : Try.prog.follows .mixedOrders = true := by kernel_rfl
  have hw1 : IntKind.i64.wrap ((k : Int) + 1) = (k : Int) + 1 := by rw [IntKind.wrap_i64]; omega
  have hb1 : (0 : Int) ≤ (k : Int) + 1 := by omega
  have hb0 : (0 : Int) ≤ (k : Int) := by omega
  have htn : ((k : Int) + 1).toNat = k + 1 := by omega
  have hb2 : ¬ (cap = n) := by omega
  have hb3 : (k : Int) + 1 ≤ (n : Int) + 1 := by omega
  have hb4 : (k : Int) ≤ (k : Int) + 1 := by omega
  have hb5 : (n : Int) + 1 ≤ (cap : Int) := by omega
  have hb6 : ¬ ((k : Int) = (k : Int) + 1) := by omega
  have hb7 : (k : Int) ≤ (n : Int) + 1 := by omega
  have hb8 : ((k : Int) == (k : Int) + 1) = false := beq_eq_false_iff_ne.2 hb6
  have hb9 : (k : Int) ≤ (cap : Int) := by omega
  have hb10 : ¬ (cap = 0) := by omega
  by_cases hck : cap = k + 1
  · rw [if_pos hck] at hA
    subst hA
    subst hck
    obtain rfl : n = k := by omega
    rw [show n + 1 - n = 1 by omega] at hus
    go_enter Try.func33, Try.ntmps33
    go_wp2_with fail
    go_region_law_o (refine step_append_runI rfl _ _ 60 60 rfl _ _ (by simp [Act.eval, Act.put]) (by simp [Act.eval, Act.put]) hrun ?_)
    go_wp2
    go_ret
    exact HEND.out
  · rw [if_neg hck] at hA
    subst hA
    go_enter Try.func33, Try.ntmps33
    go_wp2_with fail
    go_region_law_o (refine step_append_runI rfl _ _ 60 60 rfl _ _ (by simp [Act.eval, Act.put]) (by simp [Act.eval, Act.put]) hrun ?_)
    go_wp2
    go_ret
    exact HEND.out

end Go.Proofs.Ytngfcgegondmgaa
