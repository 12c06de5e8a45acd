/-
  The first core that has room, of program and document.
  Conditions: the plan is right; the share is 1 at least.
-/
import Derived.Test.YtkgkanmccaodfaaM08
import Derived.Test.YtkgkanmccaodfaaM12
import Derived.Test.YtkgkanmccaodfaaM07
import Derived.Test.YtkgkanmccaodfaaM18
import Derived.Test.YtkgkanmccaodfaaM19
import Derived.Test.YtkgkanmccaodfaaM16
import Derived.Test.YtkgkanmccaodfaaM03

/-
  Where a plan's place belongs; append of pieces onto an empty row.
  Conditions: the plan is right.
-/
set_option linter.unusedVariables false
set_option linter.unusedSimpArgs false
namespace Go.Proofs.Ytkgkanmccaodfaa
open Go.RowKit

/-- A right plan without one of its places. -/
def lessT (l : List Pl) (i : Nat) : List Pl := l.take i ++ l.drop (i + 1)
theorem less_get {l : List Pl} {i : Nat} (hi : i < l.length) (j : Nat) : (lessT l i)[j]? = if j < i then l[j]? else l[j + 1]? := by
  unfold lessT
  by_cases h : j < i
  · rw [if_pos h, List.getElem?_append_left (by rw [List.length_take]; omega), List.getElem?_take_of_lt h]
  · rw [if_neg h, List.getElem?_append_right (by rw [List.length_take]; omega), List.length_take, Nat.min_eq_left (by omega), List.getElem?_drop]
    congr 1
    omega
theorem drop_less {f : Int} {m : Nat} {l : List Pl} {i : Nat} {z : Pl} (hr : Right f m l) (hi : l[i]? = some z) : dropT l z.u = lessT l i := by
  obtain ⟨hlt, _⟩ := List.getElem?_eq_some_iff.1 hi
  have e : l = l.take i ++ z :: l.drop (i + 1) := by
    obtain ⟨hk, hx'⟩ := List.getElem?_eq_some_iff.1 hi
    rw [← hx', ← List.drop_eq_getElem_cons hk, List.take_append_drop]
  have h1 : (l.take i).filter (fun x => !decide (x.u = z.u)) = l.take i := List.filter_eq_self.2 fun x hx => by
    obtain ⟨j, hj⟩ := List.mem_iff_getElem?.1 hx
    have hji : j < i := by
      have := (List.getElem?_eq_some_iff.1 hj).1
      rw [List.length_take] at this
      omega
    rw [List.getElem?_take_of_lt hji] at hj
    have := hr.rise hji hj hi
    simp
    omega
  have h2 : (l.drop (i + 1)).filter (fun x => !decide (x.u = z.u)) = l.drop (i + 1) := List.filter_eq_self.2 fun x hx => by
    obtain ⟨j, hj⟩ := List.mem_iff_getElem?.1 hx
    rw [List.getElem?_drop] at hj
    have := hr.rise (show i < i + 1 + j by omega) hi hj
    simp
    omega
  unfold dropT lessT
  conv => lhs; rw [e]
  rw [List.filter_append, List.filter_cons, h1, h2]
  simp
theorem less_put {f : Int} {m : Nat} {l : List Pl} {i : Nat} {z : Pl} (hr : Right f m l) (hi : l[i]? = some z) : PutAt (lessT l i) z.u i := by
  have hlt := (List.getElem?_eq_some_iff.1 hi).1
  refine ⟨by unfold lessT; rw [List.length_append, List.length_take]; omega, fun j y hy => ?_⟩
  rw [less_get hlt] at hy
  by_cases h : j < i
  · rw [if_pos h] at hy
    have := hr.rise h hy hi
    exact ⟨fun _ => h, fun _ => this⟩
  · rw [if_neg h] at hy
    have := hr.rise (show i < j + 1 by omega) hi hy
    exact ⟨fun e => by omega, fun e => absurd e h⟩
theorem less_drop {d : List Pl} {u : Int} {i : Nat} (h : PutAt d u i) (hn : ∀ x ∈ d, x.u ≠ u) : dropT d u = d := List.filter_eq_self.2 fun x hx => by simp [hn x hx]
theorem less_ne {f : Int} {m : Nat} {l : List Pl} {i : Nat} {z : Pl} (hr : Right f m l) (hi : l[i]? = some z) : ∀ x ∈ lessT l i, x.u ≠ z.u := fun x hx => by
  rw [← drop_less hr hi] at hx
  simpa using (List.mem_filter.1 hx).2
theorem less_back {l : List Pl} {i : Nat} {z : Pl} (hi : l[i]? = some z) : putPl (lessT l i) z i = l := by
  have hlt := (List.getElem?_eq_some_iff.1 hi).1
  have e : l = l.take i ++ z :: l.drop (i + 1) := by
    obtain ⟨hk, hx'⟩ := List.getElem?_eq_some_iff.1 hi
    rw [← hx', ← List.drop_eq_getElem_cons hk, List.take_append_drop]
  have hti : (l.take i).length = i := by rw [List.length_take]; omega
  unfold putPl lessT
  rw [List.take_append_of_le_length (by omega), List.take_of_length_le (by omega), List.drop_append_of_le_length (by omega), List.drop_of_length_le (by omega)]
  conv => rhs; rw [e]
  simp

/-- append in a region that draws, by its run. -/
theorem step_append_run16 {ops : Array Oper} {o : Oper} {a : Act} {w : World} {K : Act → World → Prop} {Q : Exit → Act → World → Prop} {E : Prop}
    (hg : o.guard = none) (d x : Operand) (dT sT : TypeId) (hop : o.op = Op.call { callee := Callee.builtin Builtin.append, args := #[d, x], argTypes := #[dT, sT] })
    (v u : Value) (hd : a.eval d = v) (hx : a.eval x = u) {v' : Value} {w' : World} (hr : (Builtin.append_ #[dT, sT] o.type #[v, u]).run Try.prog w = .ok v' w') (hK : K (a.put o.dst v') w') :
    if Region.wanted o (yielded ops a.tmps) = true then Oper.wp Try.prog o a w K Q else E := by
  have hw : Region.wanted o (yielded ops a.tmps) = true := by simp [Region.wanted, hg]
  rw [if_pos hw]
  unfold Oper.wp
  simp [execOp, hop, resolve, invoke, builtin, hd, hx, hr, Result.andThen]
  exact hK
theorem step_store_row16 {ops : Array Oper} {o : Oper} {a : Act} {w : World} {K : Act → World → Prop} {Q : Exit → Act → World → Prop} {E : Prop}
    (hg : o.guard = none) (ty : TypeId) (x y : Operand) (ho : o.op = .store ty x y)
    (g : Nat) (cells : Array Value) (hx : a.eval x = .pointer (some ⟨g, 0, none⟩)) (hy : a.eval y = .agg cells)
    (t : TypeId) (old : Array Value) (hgg : w.heap[g]? = some (.cells old t (0, 0))) (hi : (Try.prog.info? ty).map (·.size) = some cells.size)
    (hold : old.size = cells.size) (h1 : cells.all (·.oneCell') = true) (hK : K (a.put o.dst undef) (w.setRow g cells)) :
    if Region.wanted o (yielded ops a.tmps) = true then Oper.wp Try.prog o a w K Q else E := by
  have hw : Region.wanted o (yielded ops a.tmps) = true := by simp [Region.wanted, hg]
  rw [if_pos hw]
  exact wp_store_row ty x y ho g cells hx hy t old hgg hi hold h1 hK
theorem pcs_of_ownB {W : World} {base : Nat} {v : Value} {ps : List Pc} (h : W.ownsRow base 50 2 v ps.length (pcsCells ps)) : PcsIn (fun b => v.ownBlock = some b) W v ps := by
  obtain ⟨A, c, rfl, h1, h2, h3⟩ := pcs_of_own h
  refine ⟨A, c, rfl, h1, h2, fun h0 => ?_⟩
  obtain ⟨b, off, rfl, hb, _, hc⟩ := h3 h0
  exact ⟨b, off, rfl, hb, rfl, hc⟩
/-- append of pieces onto an empty row. -/
theorem app_pcs (W : World) (E : Nat) (hE : W.heap[E]? = some (.cells #[] 50 (0, 0))) (v : Value) (ps : List Pc) (h : PcsAt W v ps) (hl : ps.length ≤ 1000) :
    ∃ v' w', (Builtin.append_ #[36, 36] 36 #[.slice (some ⟨E, 0, none⟩) 0 0, v]).run Try.prog W = .ok v' w' ∧ PcsIn (fun b => b = E ∨ W.heap.size ≤ b) w' v' ps ∧ Below E W w' ∧ ∀ b, b < W.heap.size → b ≠ E → w'.heap[b]? = W.heap[b]? := by
  obtain ⟨i, hi, hz0, hz1, hz2⟩ := info_parts Try.infoPc
  obtain ⟨A, c, rfl, h1, h2, h3⟩ := h
  have hEl := heap_lt hE
  rcases A with _ | a
  · have : ps = [] := by
      rcases Nat.eq_zero_or_pos ps.length with h | h
      · exact List.eq_nil_of_length_eq_zero h
      · obtain ⟨b, off, e, _⟩ := h3 h; cases e
    subst this
    refine ⟨.slice (some ⟨E, 0, none⟩) 0 0, W, ?_, ⟨_, 0, rfl, Nat.le_refl _, by decide, fun h => absurd h (by decide)⟩, Below.refl _ _, fun _ _ _ => rfl⟩
    simp [Builtin.append_, run_underlying Try.underlying36, Builtin.lenOf, sizeOf, typeInfo, hi, hz1, Builtin.firstCells, storeCells, Result.andThen]
  · have hown : W.ownsRow E 50 2 (.slice (some ⟨E, 0, none⟩) 0 0) 0 [] := ⟨rfl, .inr ⟨E, 0, #[], rfl, Nat.le_refl _, hE, Nat.le_refl _, Nat.zero_le _, rfl, rfl⟩⟩
    obtain ⟨v', w', hr, ho, hg, _, hat⟩ := run_append_own_at (P := Try.prog) W E 36 36 50 i (.agg #[.int .i64 0, .int .u64 0]) 2 16 Try.underlying36 hi hz0 hz1 hz2 rfl (by decide) _ 0 [] hown a ps.length c (pcsCells ps) (pcsCells_length ps) (fun j u hj => by
      have hj' : j < ps.length * 2 := by rw [← pcsCells_length]; exact (List.getElem?_eq_some_iff.1 hj).1
      obtain ⟨b, off, e, hlt, _, hc⟩ := h3 (by omega)
      cases e
      rw [Addr.add_lit]
      exact pcsCells_of ps hc j u hj) (pcsCells_one ps) (by unfold maxLen; omega) (by omega) (by omega)
    rw [Nat.zero_add, List.nil_append] at ho
    refine ⟨v', w', hr, (pcs_of_ownB ho).mono fun b _ hb => ?_, below_grown5 hg (by omega) fun k hk => (by cases hk; exact Nat.le_refl _), fun b hb hne => hg.block b hb fun e => hne (by cases e; rfl)⟩
    rcases hat with hat | hat
    · rw [hat] at hb
      exact .inl (Option.some.inj hb).symm
    · rw [hat] at hb
      exact .inr (Nat.le_of_eq (Option.some.inj hb))
end Go.Proofs.Ytkgkanmccaodfaa

/-
  Why wants are not placed, of program and document.
  Conditions: the slices read as places, as wants; the numbers are of their kinds.
-/
set_option linter.unusedVariables false
set_option linter.unusedSimpArgs false
namespace Go.Proofs.Ytkgkanmccaodfaa
open Go.RowKit

/-- Why wants are not placed, as an answer. -/
def RetWhy (f : Int) (m : Nat) (l : List Pl) (ws : List Sp) (w : World) (e : Ending) (w' : World) : Prop := ∃ E : Int, e = .returned (.int .i64 E) ∧ Why f m l ws E ∧ Below w.heap.size w w'
theorem anyB_take {l : List Pl} {ws : List Sp} {k : Nat} {y : Sp} (h : ws[k]? = some y) : anyB l (ws.take (k + 1)) = (anyB l (ws.take k) || (findU l y.1).isSome) := by
  unfold anyB
  rw [List.take_add_one, h, Option.toList_some, List.any_append]
  simp
theorem anyB_hit {l : List Pl} {ws : List Sp} {k : Nat} {y : Sp} (h : ws[k]? = some y) (hf : (findU l y.1).isSome = true) : anyB l ws = true := List.any_eq_true.2 ⟨y, List.mem_of_getElem? h, hf⟩

set_option maxRecDepth 100000 in
set_option maxHeartbeats 8000000 in
theorem refWhy_any (f : Int) (m : Nat) (v : Value) (l : List Pl) (vw : Value) (ws : List Sp) (w : World) (h : PlsAt w v l) (hL : LightL l) (hw : SpansAt w vw ws) (hi : IntsS ws) (hm : m < 4294967296) :
    Calls Try.prog 38 #[planA f m v, vw] w (RetWhy f m l ws w) := by
  have mixed : Try.prog.follows .mixedOrders = true := by kernel_rfl
  have HRI := Lib.hid (fun w h => calls_iff (right_any f m v l w h hL hm))
  have HOC := Lib.hid (fun w h => refCheck_any f vw ws w h hi)
  have HFI := Lib.hid (fun u w h => refFind_any f m v l u w h (by have := hL.len; omega))
  have HH := Lib.hid h
  have HW := Lib.hid hw
  unfold planA at HRI HFI
  unfold RetFind at HFI
  obtain ⟨w1, P, hw1, hP, hPl, hb1, hbox⟩ := box_any w #[.int .i64 f, .int .u32 m, v] 25
  have HB1 := Lib.hid hb1
  have HBOX := Lib.hid hbox
  obtain ⟨r0, r1, r2⟩ := three_heads hbox
  clear h hL hw hi hb1 hbox
  unfold planA
  by_cases hr : Right f m l
  · have HRY := Lib.hid ((HRI.out _ (HH.out.keep HB1.out)).1 hr)
    have HR := Lib.hid hr
    obtain ⟨E2, hE2⟩ : ∃ E2, chkT f ws = E2 := ⟨_, rfl⟩
    rw [hE2] at HOC
    have HE2 := Lib.hid hE2
    clear HRI hr hE2
    go_enter Try.func38, Try.ntmps38
    go_wp2_with fail
    refine HRY.out.mono ?_
    rintro e w2 ⟨rfl, hb2⟩
    have HK2 := Lib.hid hb2
    clear hb2 r0 r1 r2 hw1 hP
    obtain ⟨r0, r1, r2⟩ := three_heads (keep_block HBOX.out HK2.out)
    go_wp2_with fail
    refine (HOC.out _ (HW.out.keep (HB1.out.trans (HK2.out.mono HB1.out.size)))).mono ?_
    rintro e w3 ⟨rfl, hb3⟩
    have HK3 := Lib.hid (HK2.out.trans (hb3.mono HK2.out.size))
    clear hb3 r0 r1 r2
    by_cases he : E2 = 0
    · subst he
      obtain ⟨A, c, rfl, hc1, hc3, hc2, hat⟩ := HW.out
      have HAT := Lib.hid hat
      obtain ⟨n, hn⟩ : ∃ n, ws.length = n := ⟨_, rfl⟩
      rw [hn] at HW HAT hc1 hc3 ⊢
      have HN := Lib.hid hn
      clear hat hn
      go_wp2_with fail
      go_loopg [6, 7, 8] n (fun gg s6 _ _ wr => ∃ k : Nat, k ≤ n ∧ gg = n - k ∧ s6 = .int .i64 k ∧ Hid (anyB l (ws.take k) = false) ∧ Below w1.heap.size w1 wr)
      case atStart => exact ⟨0, Nat.zero_le _, by omega, rfl, rfl, HK3.out⟩
      case round =>
        obtain ⟨k, hk, hg, rfl, HLO, hbw⟩ := hrel
        have HG := Lib.hid hg
        have hkd := hbw.drew
        have HB := Lib.hid (HB1.out.trans (hbw.mono HB1.out.size))
        obtain ⟨wo, rfl⟩ : ∃ wo : World, wo = wr := ⟨_, rfl⟩
        by_cases hlt : k < n
        · have hltz : (k : Int) < (n : Int) := by omega
          have hk0 : (0 : Int) ≤ (k : Int) := by omega
          obtain ⟨y, hy⟩ := ex_at (xs := ws) (k := k) (by rw [HN.out]; exact hlt)
          obtain ⟨b, off, hA, hbl, hcell⟩ := HAT.out (by omega)
          subst hA
          have HS : Hid (∀ W, Below w1.heap.size w1 W → W.cell? ⟨P, 0, none⟩ = some (.int .i64 f) ∧ W.cell? ⟨P, 1, none⟩ = some (.int .u32 m) ∧ W.cell? ⟨P, 2, none⟩ = some v ∧ W.cell? ⟨b, off + k * 2, none⟩ = some (.int .i64 y.1)) := Lib.hid (fun W hk => by
            obtain ⟨e0, e1, e2⟩ := three_heads (keep_block HBOX.out hk)
            exact ⟨e0, e1, e2, ((hcell k y hy).keep (HB1.out.trans (hk.mono HB1.out.size)) hbl).1⟩)
          have HY := Lib.hid hy
          have HFY := Lib.hid (fun W (hk : Below w1.heap.size w1 W) => HFI.out y.1 W (HH.out.keep (HB1.out.trans (hk.mono HB1.out.size))))
          obtain ⟨o, ho⟩ : ∃ o, findU l y.1 = o := ⟨_, rfl⟩
          rw [ho] at HFY
          have HO := Lib.hid ho
          obtain ⟨x, hx⟩ : ∃ x, o.getD zeroPl = x := ⟨_, rfl⟩
          obtain ⟨q, hq⟩ : ∃ q, o.isSome = q := ⟨_, rfl⟩
          rw [hx, hq] at HFY
          have HQ := Lib.hid hq
          clear hbw hg hcell hy ho hx hq
          cases q with
          | false =>
            have HLON : Hid (anyB l (ws.take (k + 1)) = false) := Lib.hid (by rw [anyB_take HY.out, HLO, HO.out, HQ.out]; rfl)
            go_wp2_with fail
            as_aux_lemma =>
              refine wp_region_held_drew (S := fun w' => w'.cell? ⟨P, 0, none⟩ = some (.int .i64 f) ∧ w'.cell? ⟨P, 1, none⟩ = some (.int .u32 m) ∧ w'.cell? ⟨P, 2, none⟩ = some (v) ∧ w'.cell? ⟨b, off + k * 2, none⟩ = some (.int .i64 y.1)) (by kernel_rfl) ?_ (fun hHeld => ?_)
              · exact HS.out _ hkd
              refine wpAnyH_take (i := 0) (oi := ⟨some 26, _, _, _, _, _⟩) (v := ?_) rfl (by kernel_rfl) (by kernel_rfl) (by kernel_rfl) (fun _ _ _ h => h) (Or.inl ⟨by kernel_rfl, ?_⟩) (by assumption) ?_
              rotate_left
              · (intro w hSw; (try dsimp only at hSw); go_simp; try with_reducible rfl)
              (try simp only [Act.put, List.setIfInBounds_toArray, List.set_cons_zero, List.set_cons_succ])
              refine wpAnyH_take (i := 1) (oi := ⟨some 27, _, _, _, _, _⟩) (v := ?_) rfl (by kernel_rfl) (by kernel_rfl) (by kernel_rfl) (fun _ _ _ h => h) (Or.inl ⟨by kernel_rfl, ?_⟩) (by assumption) ?_
              rotate_left
              · (intro w hSw; (try dsimp only at hSw); go_simp; try with_reducible rfl)
              (try simp only [Act.put, List.setIfInBounds_toArray, List.set_cons_zero, List.set_cons_succ])
              refine wpAnyH_take (i := 2) (oi := ⟨some 28, _, _, _, _, _⟩) (v := ?_) rfl (by kernel_rfl) (by kernel_rfl) (by kernel_rfl) (fun _ _ _ h => h) (Or.inl ⟨by kernel_rfl, ?_⟩) (by assumption) ?_
              rotate_left
              · (intro w hSw; (try dsimp only at hSw); go_simp; try with_reducible rfl)
              (try simp only [Act.put, List.setIfInBounds_toArray, List.set_cons_zero, List.set_cons_succ])
              refine wpAnyH_take (i := 3) (oi := ⟨some 29, _, _, _, _, _⟩) (v := ?_) rfl (by kernel_rfl) (by kernel_rfl) (by kernel_rfl) (fun _ _ _ h => h) (Or.inl ⟨by kernel_rfl, ?_⟩) (by assumption) ?_
              rotate_left
              · (intro w hSw; (try dsimp only at hSw); go_simp; try with_reducible rfl)
              (try simp only [Act.put, List.setIfInBounds_toArray, List.set_cons_zero, List.set_cons_succ])
              refine wpAnyH_take (i := 4) (oi := ⟨some 30, _, _, _, _, _⟩) (v := ?_) rfl (by kernel_rfl) (by kernel_rfl) (by kernel_rfl) (fun _ _ _ h => h) (Or.inl ⟨by kernel_rfl, ?_⟩) (by assumption) ?_
              rotate_left
              · (intro w hSw; (try dsimp only at hSw); go_simp; try with_reducible rfl)
              (try simp only [Act.put, List.setIfInBounds_toArray, List.set_cons_zero, List.set_cons_succ])
              refine wpAnyH_take (i := 5) (oi := ⟨some 31, _, _, _, _, _⟩) (v := ?_) rfl (by kernel_rfl) (by kernel_rfl) (by kernel_rfl) (fun _ _ _ h => h) (Or.inl ⟨by kernel_rfl, ?_⟩) (by assumption) ?_
              rotate_left
              · (intro w hSw; (try dsimp only at hSw); go_simp; try with_reducible rfl)
              (try simp only [Act.put, List.setIfInBounds_toArray, List.set_cons_zero, List.set_cons_succ])
              refine wpAnyH_ready (rs := [6, 10]) (by kernel_rfl) (by simp) ?_
              refine AllReadyH.cons (o := ⟨some 32, _, _, _, _, _⟩) rfl (fun K hK => ?_) (AllReadyH.cons (o := ⟨some 7, _, _, _, _, _⟩) rfl (fun K hK => ?_) AllReadyH.nil)
              · rw [if_pos (by kernel_rfl)]
                go_simp
                go_at_call 63; refine (HFY.out _ hkd).mono ?_; rintro e wx1 ⟨vq, rfl, hps, hbx1⟩; unfold plA
                obtain ⟨Aq, dq, rfl⟩ := hps.form
                have hkx1 := hkd.trans (hbx1.mono hkd.size)
                refine hK.out _ _ ?_ (fun hHeld => ?_)
                · exact HS.out _ hkx1
                clear hK K
                (try simp only [Act.put, List.setIfInBounds_toArray, List.set_cons_zero, List.set_cons_succ])
                refine wpAnyH_take (i := 7) (oi := ⟨some 25, _, _, _, _, _⟩) (v := ?_) rfl (by kernel_rfl) (by kernel_rfl) (by kernel_rfl) (fun _ _ _ h => h) (Or.inl ⟨by kernel_rfl, ?_⟩) (by assumption) ?_
                rotate_left
                · (intro w hSw; (try dsimp only at hSw); go_simp; try with_reducible rfl)
                (try simp only [Act.put, List.setIfInBounds_toArray, List.set_cons_zero, List.set_cons_succ])
                refine wpAnyH_take (i := 8) (oi := ⟨some 33, _, _, _, _, _⟩) (v := ?_) rfl (by kernel_rfl) (by kernel_rfl) (by kernel_rfl) (fun _ _ _ h => h) (Or.inl ⟨by kernel_rfl, ?_⟩) (by assumption) ?_
                rotate_left
                · (intro w hSw; (try dsimp only at hSw); go_simp; try with_reducible rfl)
                (try simp only [Act.put, List.setIfInBounds_toArray, List.set_cons_zero, List.set_cons_succ])
                refine wpAnyH_take (i := 9) (oi := ⟨some 34, _, _, _, _, _⟩) (v := ?_) rfl (by kernel_rfl) (by kernel_rfl) (by kernel_rfl) (fun _ _ _ h => h) (Or.inl ⟨by kernel_rfl, ?_⟩) (by assumption) ?_
                rotate_left
                · (intro w hSw; (try dsimp only at hSw); go_simp; try with_reducible rfl)
                (try simp only [Act.put, List.setIfInBounds_toArray, List.set_cons_zero, List.set_cons_succ])
                refine wpAnyH_ready (rs := [10]) (by kernel_rfl) (by simp) ?_
                refine AllReadyH.cons (o := ⟨some 7, _, _, _, _, _⟩) rfl (fun K hK => ?_) AllReadyH.nil
                obtain ⟨wx2, Q, hw2, hQ2, hQl, hbx2, hq⟩ := box_any wx1 #[.int .i64 0, .int .i64 0, .int .i64 0, .slice none 0 0] 38
                have hkx2 := hkx1.trans (hbx2.mono hkx1.size)
                have hQw : w1.heap.size ≤ Q := by have := hkx1.size; omega
                have hps := hps.keep hbx2
                rw [if_pos (by kernel_rfl)]
                go_simp
                refine hK.out _ _ ?_ (fun hHeld => ?_)
                · exact HS.out _ hkx2
                clear hK K
                (try simp only [Act.put, List.setIfInBounds_toArray, List.set_cons_zero, List.set_cons_succ])
                clear hw2 hQ2
                refine wpAnyH_ready (rs := [11]) (by kernel_rfl) (by simp) ?_
                refine AllReadyH.cons (o := ⟨none, _, _, _, _, _⟩) rfl (fun K hK => ?_) AllReadyH.nil
                refine step_store_row16 rfl _ _ _ rfl Q #[.int .i64 x.u, .int .i64 x.s, .int .i64 x.c, .slice Aq x.ps.length dq] (by simp [Act.eval, Act.put]) (by simp [Act.eval, Act.put]) 38 _ hq (Try.sizePl _ _ _ _) rfl (one4 _ _ _ _ _ _) ?_
                have hkz := below_row hkx2 hQw #[.int .i64 x.u, .int .i64 x.s, .int .i64 x.c, .slice Aq x.ps.length dq]
                refine hK.out _ _ ?_ (fun hHeld => ?_)
                · exact HS.out _ hkz
                clear hK K
                (try simp only [Act.put, List.setIfInBounds_toArray, List.set_cons_zero, List.set_cons_succ])
                refine wpAnyH_take (i := 12) (oi := ⟨some 8, _, _, _, _, _⟩) (v := ?_) rfl (by kernel_rfl) (by kernel_rfl) (by kernel_rfl) (fun _ _ _ h => h) (Or.inl ⟨by kernel_rfl, ?_⟩) (by assumption) ?_
                rotate_left
                · (intro w hSw; (try dsimp only at hSw); go_simp; try with_reducible rfl)
                (try simp only [Act.put, List.setIfInBounds_toArray, List.set_cons_zero, List.set_cons_succ])
                refine wpAnyH_done (by kernel_rfl) ?_ _
                have HKZ := Lib.hid hkz
                clear hHeld hkz hq hps
                go_wp2_with fail
                go_roundg (n - (k + 1))
                case measure => have := HG.out; omega
                case rel => exact ⟨k + 1, by omega, rfl, by go_num, HLON, HKZ.out⟩
              · obtain ⟨wx4, Q, hw4, hQ4, hQl, hbx4, hq⟩ := box_any wo.drew #[.int .i64 0, .int .i64 0, .int .i64 0, .slice none 0 0] 38
                have hkx4 := hkd.trans (hbx4.mono hkd.size)
                have hQw : w1.heap.size ≤ Q := by have := hkd.size; omega
                rw [if_pos (by kernel_rfl)]
                go_simp
                refine hK.out _ _ ?_ (fun hHeld => ?_)
                · exact HS.out _ hkx4
                clear hK K
                (try simp only [Act.put, List.setIfInBounds_toArray, List.set_cons_zero, List.set_cons_succ])
                clear hw4 hQ4
                refine wpAnyH_ready (rs := [6]) (by kernel_rfl) (by simp) ?_
                refine AllReadyH.cons (o := ⟨some 32, _, _, _, _, _⟩) rfl (fun K hK => ?_) AllReadyH.nil
                rw [if_pos (by kernel_rfl)]
                go_simp
                go_at_call 63; refine (HFY.out _ hkx4).mono ?_; rintro e wx5 ⟨vq, rfl, hps, hbx5⟩; unfold plA
                obtain ⟨Aq, dq, rfl⟩ := hps.form
                have hkx5 := hkx4.trans (hbx5.mono hkx4.size)
                have hq := keep_block hq hbx5
                refine hK.out _ _ ?_ (fun hHeld => ?_)
                · exact HS.out _ hkx5
                clear hK K
                (try simp only [Act.put, List.setIfInBounds_toArray, List.set_cons_zero, List.set_cons_succ])
                refine wpAnyH_take (i := 7) (oi := ⟨some 25, _, _, _, _, _⟩) (v := ?_) rfl (by kernel_rfl) (by kernel_rfl) (by kernel_rfl) (fun _ _ _ h => h) (Or.inl ⟨by kernel_rfl, ?_⟩) (by assumption) ?_
                rotate_left
                · (intro w hSw; (try dsimp only at hSw); go_simp; try with_reducible rfl)
                (try simp only [Act.put, List.setIfInBounds_toArray, List.set_cons_zero, List.set_cons_succ])
                refine wpAnyH_take (i := 8) (oi := ⟨some 33, _, _, _, _, _⟩) (v := ?_) rfl (by kernel_rfl) (by kernel_rfl) (by kernel_rfl) (fun _ _ _ h => h) (Or.inl ⟨by kernel_rfl, ?_⟩) (by assumption) ?_
                rotate_left
                · (intro w hSw; (try dsimp only at hSw); go_simp; try with_reducible rfl)
                (try simp only [Act.put, List.setIfInBounds_toArray, List.set_cons_zero, List.set_cons_succ])
                refine wpAnyH_take (i := 9) (oi := ⟨some 34, _, _, _, _, _⟩) (v := ?_) rfl (by kernel_rfl) (by kernel_rfl) (by kernel_rfl) (fun _ _ _ h => h) (Or.inl ⟨by kernel_rfl, ?_⟩) (by assumption) ?_
                rotate_left
                · (intro w hSw; (try dsimp only at hSw); go_simp; try with_reducible rfl)
                (try simp only [Act.put, List.setIfInBounds_toArray, List.set_cons_zero, List.set_cons_succ])
                refine wpAnyH_ready (rs := [11]) (by kernel_rfl) (by simp) ?_
                refine AllReadyH.cons (o := ⟨none, _, _, _, _, _⟩) rfl (fun K hK => ?_) AllReadyH.nil
                refine step_store_row16 rfl _ _ _ rfl Q #[.int .i64 x.u, .int .i64 x.s, .int .i64 x.c, .slice Aq x.ps.length dq] (by simp [Act.eval, Act.put]) (by simp [Act.eval, Act.put]) 38 _ hq (Try.sizePl _ _ _ _) rfl (one4 _ _ _ _ _ _) ?_
                have hkz := below_row hkx5 hQw #[.int .i64 x.u, .int .i64 x.s, .int .i64 x.c, .slice Aq x.ps.length dq]
                refine hK.out _ _ ?_ (fun hHeld => ?_)
                · exact HS.out _ hkz
                clear hK K
                (try simp only [Act.put, List.setIfInBounds_toArray, List.set_cons_zero, List.set_cons_succ])
                refine wpAnyH_take (i := 12) (oi := ⟨some 8, _, _, _, _, _⟩) (v := ?_) rfl (by kernel_rfl) (by kernel_rfl) (by kernel_rfl) (fun _ _ _ h => h) (Or.inl ⟨by kernel_rfl, ?_⟩) (by assumption) ?_
                rotate_left
                · (intro w hSw; (try dsimp only at hSw); go_simp; try with_reducible rfl)
                (try simp only [Act.put, List.setIfInBounds_toArray, List.set_cons_zero, List.set_cons_succ])
                refine wpAnyH_done (by kernel_rfl) ?_ _
                have HKZ := Lib.hid hkz
                clear hHeld hkz hq hps
                go_wp2_with fail
                go_roundg (n - (k + 1))
                case measure => have := HG.out; omega
                case rel => exact ⟨k + 1, by omega, rfl, by go_num, HLON, HKZ.out⟩
          | true =>
            have HW11 : Hid (Why f m l ws 11) := Lib.hid (.inr (.inr (.inl ⟨HR.out, HE2.out, anyB_hit HY.out (by rw [HO.out]; exact HQ.out), rfl⟩)))
            go_wp2_with fail
            as_aux_lemma =>
              refine wp_region_held_drew (S := fun w' => w'.cell? ⟨P, 0, none⟩ = some (.int .i64 f) ∧ w'.cell? ⟨P, 1, none⟩ = some (.int .u32 m) ∧ w'.cell? ⟨P, 2, none⟩ = some (v) ∧ w'.cell? ⟨b, off + k * 2, none⟩ = some (.int .i64 y.1)) (by kernel_rfl) ?_ (fun hHeld => ?_)
              · exact HS.out _ hkd
              refine wpAnyH_take (i := 0) (oi := ⟨some 26, _, _, _, _, _⟩) (v := ?_) rfl (by kernel_rfl) (by kernel_rfl) (by kernel_rfl) (fun _ _ _ h => h) (Or.inl ⟨by kernel_rfl, ?_⟩) (by assumption) ?_
              rotate_left
              · (intro w hSw; (try dsimp only at hSw); go_simp; try with_reducible rfl)
              (try simp only [Act.put, List.setIfInBounds_toArray, List.set_cons_zero, List.set_cons_succ])
              refine wpAnyH_take (i := 1) (oi := ⟨some 27, _, _, _, _, _⟩) (v := ?_) rfl (by kernel_rfl) (by kernel_rfl) (by kernel_rfl) (fun _ _ _ h => h) (Or.inl ⟨by kernel_rfl, ?_⟩) (by assumption) ?_
              rotate_left
              · (intro w hSw; (try dsimp only at hSw); go_simp; try with_reducible rfl)
              (try simp only [Act.put, List.setIfInBounds_toArray, List.set_cons_zero, List.set_cons_succ])
              refine wpAnyH_take (i := 2) (oi := ⟨some 28, _, _, _, _, _⟩) (v := ?_) rfl (by kernel_rfl) (by kernel_rfl) (by kernel_rfl) (fun _ _ _ h => h) (Or.inl ⟨by kernel_rfl, ?_⟩) (by assumption) ?_
              rotate_left
              · (intro w hSw; (try dsimp only at hSw); go_simp; try with_reducible rfl)
              (try simp only [Act.put, List.setIfInBounds_toArray, List.set_cons_zero, List.set_cons_succ])
              refine wpAnyH_take (i := 3) (oi := ⟨some 29, _, _, _, _, _⟩) (v := ?_) rfl (by kernel_rfl) (by kernel_rfl) (by kernel_rfl) (fun _ _ _ h => h) (Or.inl ⟨by kernel_rfl, ?_⟩) (by assumption) ?_
              rotate_left
              · (intro w hSw; (try dsimp only at hSw); go_simp; try with_reducible rfl)
              (try simp only [Act.put, List.setIfInBounds_toArray, List.set_cons_zero, List.set_cons_succ])
              refine wpAnyH_take (i := 4) (oi := ⟨some 30, _, _, _, _, _⟩) (v := ?_) rfl (by kernel_rfl) (by kernel_rfl) (by kernel_rfl) (fun _ _ _ h => h) (Or.inl ⟨by kernel_rfl, ?_⟩) (by assumption) ?_
              rotate_left
              · (intro w hSw; (try dsimp only at hSw); go_simp; try with_reducible rfl)
              (try simp only [Act.put, List.setIfInBounds_toArray, List.set_cons_zero, List.set_cons_succ])
              refine wpAnyH_take (i := 5) (oi := ⟨some 31, _, _, _, _, _⟩) (v := ?_) rfl (by kernel_rfl) (by kernel_rfl) (by kernel_rfl) (fun _ _ _ h => h) (Or.inl ⟨by kernel_rfl, ?_⟩) (by assumption) ?_
              rotate_left
              · (intro w hSw; (try dsimp only at hSw); go_simp; try with_reducible rfl)
              (try simp only [Act.put, List.setIfInBounds_toArray, List.set_cons_zero, List.set_cons_succ])
              refine wpAnyH_ready (rs := [6, 10]) (by kernel_rfl) (by simp) ?_
              refine AllReadyH.cons (o := ⟨some 32, _, _, _, _, _⟩) rfl (fun K hK => ?_) (AllReadyH.cons (o := ⟨some 7, _, _, _, _, _⟩) rfl (fun K hK => ?_) AllReadyH.nil)
              · rw [if_pos (by kernel_rfl)]
                go_simp
                go_at_call 63; refine (HFY.out _ hkd).mono ?_; rintro e wx1 ⟨vq, rfl, hps, hbx1⟩; unfold plA
                obtain ⟨Aq, dq, rfl⟩ := hps.form
                have hkx1 := hkd.trans (hbx1.mono hkd.size)
                refine hK.out _ _ ?_ (fun hHeld => ?_)
                · exact HS.out _ hkx1
                clear hK K
                (try simp only [Act.put, List.setIfInBounds_toArray, List.set_cons_zero, List.set_cons_succ])
                refine wpAnyH_take (i := 7) (oi := ⟨some 25, _, _, _, _, _⟩) (v := ?_) rfl (by kernel_rfl) (by kernel_rfl) (by kernel_rfl) (fun _ _ _ h => h) (Or.inl ⟨by kernel_rfl, ?_⟩) (by assumption) ?_
                rotate_left
                · (intro w hSw; (try dsimp only at hSw); go_simp; try with_reducible rfl)
                (try simp only [Act.put, List.setIfInBounds_toArray, List.set_cons_zero, List.set_cons_succ])
                refine wpAnyH_take (i := 8) (oi := ⟨some 33, _, _, _, _, _⟩) (v := ?_) rfl (by kernel_rfl) (by kernel_rfl) (by kernel_rfl) (fun _ _ _ h => h) (Or.inl ⟨by kernel_rfl, ?_⟩) (by assumption) ?_
                rotate_left
                · (intro w hSw; (try dsimp only at hSw); go_simp; try with_reducible rfl)
                (try simp only [Act.put, List.setIfInBounds_toArray, List.set_cons_zero, List.set_cons_succ])
                refine wpAnyH_take (i := 9) (oi := ⟨some 34, _, _, _, _, _⟩) (v := ?_) rfl (by kernel_rfl) (by kernel_rfl) (by kernel_rfl) (fun _ _ _ h => h) (Or.inl ⟨by kernel_rfl, ?_⟩) (by assumption) ?_
                rotate_left
                · (intro w hSw; (try dsimp only at hSw); go_simp; try with_reducible rfl)
                (try simp only [Act.put, List.setIfInBounds_toArray, List.set_cons_zero, List.set_cons_succ])
                refine wpAnyH_ready (rs := [10]) (by kernel_rfl) (by simp) ?_
                refine AllReadyH.cons (o := ⟨some 7, _, _, _, _, _⟩) rfl (fun K hK => ?_) AllReadyH.nil
                obtain ⟨wx2, Q, hw2, hQ2, hQl, hbx2, hq⟩ := box_any wx1 #[.int .i64 0, .int .i64 0, .int .i64 0, .slice none 0 0] 38
                have hkx2 := hkx1.trans (hbx2.mono hkx1.size)
                have hQw : w1.heap.size ≤ Q := by have := hkx1.size; omega
                have hps := hps.keep hbx2
                rw [if_pos (by kernel_rfl)]
                go_simp
                refine hK.out _ _ ?_ (fun hHeld => ?_)
                · exact HS.out _ hkx2
                clear hK K
                (try simp only [Act.put, List.setIfInBounds_toArray, List.set_cons_zero, List.set_cons_succ])
                clear hw2 hQ2
                refine wpAnyH_ready (rs := [11]) (by kernel_rfl) (by simp) ?_
                refine AllReadyH.cons (o := ⟨none, _, _, _, _, _⟩) rfl (fun K hK => ?_) AllReadyH.nil
                refine step_store_row16 rfl _ _ _ rfl Q #[.int .i64 x.u, .int .i64 x.s, .int .i64 x.c, .slice Aq x.ps.length dq] (by simp [Act.eval, Act.put]) (by simp [Act.eval, Act.put]) 38 _ hq (Try.sizePl _ _ _ _) rfl (one4 _ _ _ _ _ _) ?_
                have hkz := below_row hkx2 hQw #[.int .i64 x.u, .int .i64 x.s, .int .i64 x.c, .slice Aq x.ps.length dq]
                refine hK.out _ _ ?_ (fun hHeld => ?_)
                · exact HS.out _ hkz
                clear hK K
                (try simp only [Act.put, List.setIfInBounds_toArray, List.set_cons_zero, List.set_cons_succ])
                refine wpAnyH_take (i := 12) (oi := ⟨some 8, _, _, _, _, _⟩) (v := ?_) rfl (by kernel_rfl) (by kernel_rfl) (by kernel_rfl) (fun _ _ _ h => h) (Or.inl ⟨by kernel_rfl, ?_⟩) (by assumption) ?_
                rotate_left
                · (intro w hSw; (try dsimp only at hSw); go_simp; try with_reducible rfl)
                (try simp only [Act.put, List.setIfInBounds_toArray, List.set_cons_zero, List.set_cons_succ])
                refine wpAnyH_done (by kernel_rfl) ?_ _
                have HKZ := Lib.hid hkz
                clear hHeld hkz hq hps
                go_wp2_with fail
                go_ret
                exact ⟨11, rfl, HW11.out, HB1.out.trans (HKZ.out.mono HB1.out.size)⟩
              · obtain ⟨wx4, Q, hw4, hQ4, hQl, hbx4, hq⟩ := box_any wo.drew #[.int .i64 0, .int .i64 0, .int .i64 0, .slice none 0 0] 38
                have hkx4 := hkd.trans (hbx4.mono hkd.size)
                have hQw : w1.heap.size ≤ Q := by have := hkd.size; omega
                rw [if_pos (by kernel_rfl)]
                go_simp
                refine hK.out _ _ ?_ (fun hHeld => ?_)
                · exact HS.out _ hkx4
                clear hK K
                (try simp only [Act.put, List.setIfInBounds_toArray, List.set_cons_zero, List.set_cons_succ])
                clear hw4 hQ4
                refine wpAnyH_ready (rs := [6]) (by kernel_rfl) (by simp) ?_
                refine AllReadyH.cons (o := ⟨some 32, _, _, _, _, _⟩) rfl (fun K hK => ?_) AllReadyH.nil
                rw [if_pos (by kernel_rfl)]
                go_simp
                go_at_call 63; refine (HFY.out _ hkx4).mono ?_; rintro e wx5 ⟨vq, rfl, hps, hbx5⟩; unfold plA
                obtain ⟨Aq, dq, rfl⟩ := hps.form
                have hkx5 := hkx4.trans (hbx5.mono hkx4.size)
                have hq := keep_block hq hbx5
                refine hK.out _ _ ?_ (fun hHeld => ?_)
                · exact HS.out _ hkx5
                clear hK K
                (try simp only [Act.put, List.setIfInBounds_toArray, List.set_cons_zero, List.set_cons_succ])
                refine wpAnyH_take (i := 7) (oi := ⟨some 25, _, _, _, _, _⟩) (v := ?_) rfl (by kernel_rfl) (by kernel_rfl) (by kernel_rfl) (fun _ _ _ h => h) (Or.inl ⟨by kernel_rfl, ?_⟩) (by assumption) ?_
                rotate_left
                · (intro w hSw; (try dsimp only at hSw); go_simp; try with_reducible rfl)
                (try simp only [Act.put, List.setIfInBounds_toArray, List.set_cons_zero, List.set_cons_succ])
                refine wpAnyH_take (i := 8) (oi := ⟨some 33, _, _, _, _, _⟩) (v := ?_) rfl (by kernel_rfl) (by kernel_rfl) (by kernel_rfl) (fun _ _ _ h => h) (Or.inl ⟨by kernel_rfl, ?_⟩) (by assumption) ?_
                rotate_left
                · (intro w hSw; (try dsimp only at hSw); go_simp; try with_reducible rfl)
                (try simp only [Act.put, List.setIfInBounds_toArray, List.set_cons_zero, List.set_cons_succ])
                refine wpAnyH_take (i := 9) (oi := ⟨some 34, _, _, _, _, _⟩) (v := ?_) rfl (by kernel_rfl) (by kernel_rfl) (by kernel_rfl) (fun _ _ _ h => h) (Or.inl ⟨by kernel_rfl, ?_⟩) (by assumption) ?_
                rotate_left
                · (intro w hSw; (try dsimp only at hSw); go_simp; try with_reducible rfl)
                (try simp only [Act.put, List.setIfInBounds_toArray, List.set_cons_zero, List.set_cons_succ])
                refine wpAnyH_ready (rs := [11]) (by kernel_rfl) (by simp) ?_
                refine AllReadyH.cons (o := ⟨none, _, _, _, _, _⟩) rfl (fun K hK => ?_) AllReadyH.nil
                refine step_store_row16 rfl _ _ _ rfl Q #[.int .i64 x.u, .int .i64 x.s, .int .i64 x.c, .slice Aq x.ps.length dq] (by simp [Act.eval, Act.put]) (by simp [Act.eval, Act.put]) 38 _ hq (Try.sizePl _ _ _ _) rfl (one4 _ _ _ _ _ _) ?_
                have hkz := below_row hkx5 hQw #[.int .i64 x.u, .int .i64 x.s, .int .i64 x.c, .slice Aq x.ps.length dq]
                refine hK.out _ _ ?_ (fun hHeld => ?_)
                · exact HS.out _ hkz
                clear hK K
                (try simp only [Act.put, List.setIfInBounds_toArray, List.set_cons_zero, List.set_cons_succ])
                refine wpAnyH_take (i := 12) (oi := ⟨some 8, _, _, _, _, _⟩) (v := ?_) rfl (by kernel_rfl) (by kernel_rfl) (by kernel_rfl) (fun _ _ _ h => h) (Or.inl ⟨by kernel_rfl, ?_⟩) (by assumption) ?_
                rotate_left
                · (intro w hSw; (try dsimp only at hSw); go_simp; try with_reducible rfl)
                (try simp only [Act.put, List.setIfInBounds_toArray, List.set_cons_zero, List.set_cons_succ])
                refine wpAnyH_done (by kernel_rfl) ?_ _
                have HKZ := Lib.hid hkz
                clear hHeld hkz hq hps
                go_wp2_with fail
                go_ret
                exact ⟨11, rfl, HW11.out, HB1.out.trans (HKZ.out.mono HB1.out.size)⟩
        · have hltz : ¬ (k : Int) < (n : Int) := by omega
          have HW0 : Hid (Why f m l ws 0) := Lib.hid (.inr (.inr (.inr ⟨HR.out, HE2.out, by rw [List.take_of_length_le (by have := HN.out; omega)] at HLO; exact HLO, rfl⟩)))
          clear hbw hg
          go_wp2_with fail
          go_ret
          exact ⟨0, rfl, HW0.out, HB.out⟩
    · have HWE : Hid (Why f m l ws E2) := Lib.hid (.inr (.inl ⟨HR.out, by rw [HE2.out]; exact he, HE2.out.symm⟩))
      have hb0 : (E2 != 0) = true := by simpa using he
      clear he
      go_wp2_with fail
      go_ret
      exact ⟨E2, rfl, HWE.out, HB1.out.trans (HK3.out.mono HB1.out.size)⟩
  · have HRN := Lib.hid ((HRI.out _ (HH.out.keep HB1.out)).2 hr)
    have HW30 : Hid (Why f m l ws 30) := Lib.hid (.inl ⟨hr, rfl⟩)
    clear HRI hr
    go_enter Try.func38, Try.ntmps38
    go_wp2_with fail
    refine HRN.out.mono ?_
    rintro e w2 ⟨rfl, hb2⟩
    have HK2 := Lib.hid (HB1.out.trans (hb2.mono HB1.out.size))
    clear hb2
    go_wp2_with fail
    go_ret
    exact ⟨30, rfl, HW30.out, HK2.out⟩
end Go.Proofs.Ytkgkanmccaodfaa

/-
  The first core that has room, of program and document.
  Conditions: the plan is right; the share is 1 at least.
-/
set_option linter.unusedVariables false
set_option linter.unusedSimpArgs false
namespace Go.Proofs.Ytkgkanmccaodfaa
open Go.RowKit

theorem cntT_inj (m : Nat) {a b : Nat} (ha : m.testBit a = true) (hb : m.testBit b = true) (h : cntT m a = cntT m b) : a = b := by
  rcases Nat.lt_trichotomy a b with h1 | h1 | h1
  · have := cntT_lt m h1 ha; omega
  · exact h1
  · have := cntT_lt m h1 hb; omega
/-- The core that first names. -/
def coreV (o : Option Nat) : Int := ((o.getD 0 : Nat) : Int)
/-- The core that the document's First names, or -1. -/
def coreR (o : Option Nat) : Int := match o with | some c => (c : Int) | none => -1

set_option maxRecDepth 100000 in
set_option maxHeartbeats 4000000 in
theorem first_any (f : Int) (m : Nat) (v : Value) (l : List Pl) (s : Int) (w : World) (h : PlsAt w v l) (hL : LightL l) (hr : Right f m l) (hs : 1 ≤ s) :
    Calls Try.prog 84 #[planA f m v, .int .i64 s] w (RetB (.tuple #[.int .i64 (coreV (firstR f m l s)), .bool (firstR f m l s).isSome]) w) := by
  have hm := hr.m16
  have hf := hr.f2
  have hf2 := hr.f64
  have hSh := shares_of hr.place hf2
  have HCO := Lib.hid (fun w => cores_any f m v w (by omega))
  rw [ticks_top hm] at HCO
  have HRM := Lib.hid (fun c w h => room_any f m v l c w h hL hSh (by omega) (by omega) hf2)
  have HRB := Lib.hid (fun c => room_bound f m l hL hSh (by omega) hf2 c)
  have HF := Lib.hid (fun c => @firstR_some f m l s c)
  have HF0 := Lib.hid (@firstR_none f m l s)
  have HIF := Lib.hid (fun c => @roomB_iff f m l s c)
  have HNO := Lib.hid (fun c => @roomB_no f m l s c)
  have HH := Lib.hid h
  unfold planA at HCO HRM
  obtain ⟨w1, P, hw1, hP, hPl, hb1, hbox⟩ := box_any w #[.int .i64 f, .int .u32 m, v] 25
  have HB1 := Lib.hid hb1
  have HBOX := Lib.hid hbox
  obtain ⟨r0, r1, r2⟩ := three_heads hbox
  obtain ⟨n, hn⟩ : ∃ n, (ticksI m 16).length = n := ⟨_, rfl⟩
  have HN := Lib.hid hn
  generalize firstR f m l s = o at *
  clear h hL hr hm hf hf2 hSh hb1 hbox hn
  unfold planA
  go_enter Try.func84, Try.ntmps84
  go_wp2_with fail
  refine (HCO.out _).mono ?_
  rintro e w2 ⟨v2, rfl, hi2, hb2⟩
  have HB2 := Lib.hid (HB1.out.trans (hb2.mono HB1.out.size))
  have HB12 := Lib.hid hb2
  obtain ⟨A2, c2, rfl, hl2, hat2⟩ := hi2
  rw [HN.out] at hat2 hl2 ⊢
  have HAT := Lib.hid hat2
  clear hb2 hat2 r0 r1 r2 hw1 hP
  go_wp2_with fail
  go_loopg [7, 11] n (fun gg _ s11 wr => ∃ k : Nat, k ≤ n ∧ gg = n - k ∧ s11 = .int .i64 k ∧ Hid (∀ j, j < 16 → m.testBit j = true → cntT m j < k → roomN f m l (j : Int) < s) ∧ Below w2.heap.size w2 wr)
  case atStart => exact ⟨0, Nat.zero_le _, by omega, rfl, fun j _ _ h => absurd h (Nat.not_lt_zero _), Below.refl _ _⟩
  case round =>
    obtain ⟨k, hk, hg, rfl, HLO, hbw⟩ := hrel
    have HG := Lib.hid hg
    have HBW := Lib.hid hbw
    have HB := Lib.hid (HB2.out.trans (hbw.mono HB2.out.size))
    obtain ⟨r0, r1, r2⟩ := three_heads (keep_block (keep_block HBOX.out HB12.out) hbw)
    by_cases hlt : k < n
    · have hltz : (k : Int) < (n : Int) := by omega
      have hk0 : (0 : Int) ≤ (k : Int) := by omega
      obtain ⟨q, hq⟩ := exP_at (xs := ticksI m 16) (k := k) (by rw [HN.out]; exact hlt)
      obtain ⟨C, rfl, hC, hCb, hcnt⟩ := ticks16 hq
      obtain ⟨bc, oc, hAd, hbcl, hcc⟩ := HAT.out (by omega)
      subst hAd
      have cc0 : wr.cell? ⟨bc, oc + k, none⟩ = some (.int .i64 (C : Int)) := (hbw.cell (p := ⟨bc, oc + k, none⟩) hbcl).trans (hcc k _ hq)
      have HRC := Lib.hid (fun w h => HRM.out (C : Int) w h)
      have HC16 := Lib.hid hC
      have HCB := Lib.hid hCb
      have HCNT := Lib.hid hcnt
      have HRE : Hid (∃ r, roomN f m l (C : Int) = r) := Lib.hid ⟨_, rfl⟩
      obtain ⟨r, hre⟩ := HRE.out
      rw [hre] at HRC
      have HE := Lib.hid hre
      clear hbw hg hq hcc hre hC hCb hcnt HRE
      by_cases hge : s ≤ r
      · have hged : decide (s ≤ r) = true := decide_eq_true hge
        have HO : Hid (o = some C) := Lib.hid ((HF.out _).2 ⟨HC16.out, (HIF.out C).2 ⟨HCB.out, by rw [HE.out]; exact hge⟩, fun j hj => (HNO.out j).2 fun hb => HLO j (by have := HC16.out; omega) hb (by
          have h1 := cntT_lt m hj hb
          have h2 := HCNT.out
          omega)⟩)
        have ho := HO.out
        subst ho
        go_wp2_with fail
        refine (HRC.out _ (HH.out.keep HB.out)).mono ?_
        rintro e w3 ⟨rfl, hb3⟩
        have HB3 := Lib.hid (HB.out.trans (hb3.mono HB.out.size))
        clear hb3
        go_wp2_with fail
        go_ret2
        exact ⟨rfl, HB3.out⟩
      · have hged : decide (s ≤ r) = false := decide_eq_false hge
        go_wp2_with fail
        refine (HRC.out _ (HH.out.keep HB.out)).mono ?_
        rintro e w3 ⟨rfl, hb3⟩
        have HB3 := Lib.hid (HBW.out.trans (hb3.mono HBW.out.size))
        have HLON : Hid (∀ j, j < 16 → m.testBit j = true → cntT m j < k + 1 → roomN f m l (j : Int) < s) := fun j hj hb hc => by
          by_cases e : cntT m j < k
          · exact HLO j hj hb e
          · have : j = C := cntT_inj m hb HCB.out (by have := HCNT.out; omega)
            subst this
            rw [HE.out]
            omega
        clear hb3
        go_wp2_with fail
        go_roundg (n - (k + 1))
        case measure => have := HG.out; omega
        case rel => exact ⟨k + 1, by omega, rfl, by go_num, HLON, HB3.out⟩
    · have hltz : ¬ (k : Int) < (n : Int) := by omega
      have HO : Hid (o = none) := Lib.hid (HF0.out.2 fun j hj => (HNO.out j).2 fun hb => HLO j hj hb (by
        have h1 := cntT_lt m hj hb
        have h2 := HN.out
        rw [ticksI_length] at h2
        omega))
      clear hbw hg
      have ho := HO.out
      subst ho
      go_wp2_with fail
      go_ret2
      exact ⟨rfl, HB.out⟩

set_option maxRecDepth 100000 in
set_option maxHeartbeats 4000000 in
theorem refFirst_any (f : Int) (m : Nat) (v : Value) (l : List Pl) (s : Int) (w : World) (h : PlsAt w v l) (hL : LightL l) (hr : Right f m l) (hs : 1 ≤ s) :
    Calls Try.prog 39 #[planA f m v, .int .i64 s] w (RetB (.int .i64 (coreR (firstR f m l s))) w) := by
  have hm := hr.m16
  have hf := hr.f2
  have hf2 := hr.f64
  have hSh := shares_of hr.place hf2
  have HHC := Lib.hid (fun c W => refHasC_any f m v c W (by omega))
  have HRM := Lib.hid (fun c w h => refRoom_any f m v l c w h hL hSh (by omega) (by omega) hf2)
  have HF := Lib.hid (fun c => @firstR_some f m l s c)
  have HF0 := Lib.hid (@firstR_none f m l s)
  have HIF := Lib.hid (fun c => @roomB_iff f m l s c)
  have HNO := Lib.hid (fun c => @roomB_no f m l s c)
  have HH := Lib.hid h
  unfold planA at HHC HRM
  obtain ⟨w1, P, hw1, hP, hPl, hb1, hbox⟩ := box_any w #[.int .i64 f, .int .u32 m, v] 25
  have HB1 := Lib.hid hb1
  have HBOX := Lib.hid hbox
  obtain ⟨r0, r1, r2⟩ := three_heads hbox
  generalize firstR f m l s = o at *
  clear h hL hr hm hf hf2 hSh hb1 hbox
  unfold planA
  go_enter Try.func39, Try.ntmps39
  go_wp2_with fail
  clear r0 r1 r2 hw1 hP
  go_loopg [5] 16 (fun gg s5 wr => ∃ k : Nat, k ≤ 16 ∧ gg = 16 - k ∧ s5 = .int .i64 k ∧ Hid (∀ j, j < k → roomB f m l s j = false) ∧ Below w1.heap.size w1 wr)
  case atStart => exact ⟨0, Nat.zero_le _, by omega, rfl, fun j h => absurd h (Nat.not_lt_zero _), Below.refl _ _⟩
  case round =>
    obtain ⟨k, hk, hg, rfl, HLO, hbw⟩ := hrel
    have HG := Lib.hid hg
    have HBW := Lib.hid hbw
    have HB := Lib.hid (HB1.out.trans (hbw.mono HB1.out.size))
    have HBX := Lib.hid (keep_block HBOX.out hbw)
    obtain ⟨r0, r1, r2⟩ := three_heads HBX.out
    by_cases hlt : k < 16
    · have hltz : (k : Int) < 16 := by omega
      have hk0 : (0 : Int) ≤ (k : Int) := by omega
      have HHK := Lib.hid (fun W => HHC.out (k : Int) W)
      rw [hasC_nat hlt] at HHK
      have HRC := Lib.hid (fun w h => HRM.out (k : Int) w h)
      have HRE : Hid (∃ r, roomN f m l (k : Int) = r) := Lib.hid ⟨_, rfl⟩
      obtain ⟨r, hre⟩ := HRE.out
      rw [hre] at HRC
      have HE := Lib.hid hre
      clear hbw hg hre HRE
      cases hb : m.testBit k with
      | false =>
        have HLON : Hid (∀ j, j < k + 1 → roomB f m l s j = false) := fun j hj => by
          by_cases e : j = k
          · subst e
            exact (HNO.out j).2 fun h => by rw [hb] at h; cases h
          · exact HLO j (by omega)
        rw [hb] at HHK
        clear hb
        go_wp2_with fail
        refine (HHK.out _).mono ?_
        rintro e w3 ⟨rfl, hb3⟩
        have HB3 := Lib.hid (HBW.out.trans (hb3.mono HBW.out.size))
        clear hb3
        go_wp2_with fail
        go_roundg (16 - (k + 1))
        case measure => have := HG.out; omega
        case rel => exact ⟨k + 1, by omega, rfl, by go_num, HLON, HB3.out⟩
      | true =>
        have HCB := Lib.hid hb
        rw [hb] at HHK
        clear hb
        by_cases hge : s ≤ r
        · have hged : decide (s ≤ r) = true := decide_eq_true hge
          have HO : Hid (o = some k) := Lib.hid ((HF.out _).2 ⟨hlt, (HIF.out k).2 ⟨HCB.out, by rw [HE.out]; exact hge⟩, HLO⟩)
          have ho := HO.out
          subst ho
          go_wp2_with fail
          refine (HHK.out _).mono ?_
          rintro e w3 ⟨rfl, hb3⟩
          have HB3 := Lib.hid (HB.out.trans (hb3.mono HB.out.size))
          have HBX3 := Lib.hid (keep_block HBX.out hb3)
          clear hb3 r0 r1 r2
          obtain ⟨r0, r1, r2⟩ := three_heads HBX3.out
          go_wp2_with fail
          refine (HRC.out _ (HH.out.keep HB3.out)).mono ?_
          rintro e w4 ⟨rfl, hb4⟩
          have HB4 := Lib.hid (HB3.out.trans (hb4.mono HB3.out.size))
          clear hb4
          go_wp2_with fail
          go_ret
          exact ⟨rfl, HB4.out⟩
        · have hged : decide (s ≤ r) = false := decide_eq_false hge
          have HLON : Hid (∀ j, j < k + 1 → roomB f m l s j = false) := fun j hj => by
            by_cases e : j = k
            · subst e
              exact (HNO.out j).2 fun h => by rw [HE.out]; omega
            · exact HLO j (by omega)
          go_wp2_with fail
          refine (HHK.out _).mono ?_
          rintro e w3 ⟨rfl, hb3⟩
          have HB3 := Lib.hid (HB.out.trans (hb3.mono HB.out.size))
          have HB3' := Lib.hid (HBW.out.trans (hb3.mono HBW.out.size))
          have HBX3 := Lib.hid (keep_block HBX.out hb3)
          clear hb3 r0 r1 r2
          obtain ⟨r0, r1, r2⟩ := three_heads HBX3.out
          go_wp2_with fail
          refine (HRC.out _ (HH.out.keep HB3.out)).mono ?_
          rintro e w4 ⟨rfl, hb4⟩
          have HB4 := Lib.hid (HB3'.out.trans (hb4.mono HB3'.out.size))
          clear hb4
          go_wp2_with fail
          go_roundg (16 - (k + 1))
          case measure => have := HG.out; omega
          case rel => exact ⟨k + 1, by omega, rfl, by go_num, HLON, HB4.out⟩
    · have hltz : ¬ (k : Int) < 16 := by omega
      have HO : Hid (o = none) := Lib.hid (HF0.out.2 fun j hj => HLO j (by omega))
      clear hbw hg
      have ho := HO.out
      subst ho
      go_wp2_with fail
      go_ret
      exact ⟨rfl, HB.out⟩
end Go.Proofs.Ytkgkanmccaodfaa
