/-
  Put, Sort and Without of the document.
  Conditions: the slice reads as wants.
-/
import Derived.Test.YtiikddemjjikfaaPut
import Derived.Laws.OwnMore
set_option linter.unusedVariables false
namespace Go.Proofs.Ytiikddemjjikfaa
open Go.RowKit

/-- Nothing is appended to a row of the call's own: from a nil slice, whatever it says of its room. -/
theorem wpList_append_none5 {P : Program} {w : World} {ops : Array Oper} {rest : List Oper} {o : Oper} {a : Act} {Q : Exit → Act → World → Prop} (hgd : o.guard = none) (s x : Operand) (t : TypeId)
    (ho : o.op = .call { callee := .builtin .append, args := #[s, x], argTypes := #[t, t] })
    (base : Nat) (e : TypeId) (i : TypeInfo) (size : Nat) (ht : P.underlying t = some (.slice e)) (hi : P.info? e = some i)
    (v : Value) (n : Nat) (xs : List Value) (hs : a.eval s = v) (hown : w.ownsRow base e size v n xs) (c : Nat) (hx : a.eval x = .slice none 0 c)
    (h : wpList P ops Q rest (a.put o.dst v) w) : wpList P ops Q (o :: rest) a w := by
  refine wpList_plain hgd fun K hK => ?_
  have hrun : (Builtin.append_ #[t, t] o.type #[v, .slice none 0 c]).run P w = .ok v w := by
    rcases hown.2 with ⟨rfl, rfl⟩ | ⟨g, cap, cur, rfl, _, _, hnc, _⟩
    · simp [Builtin.append_, run_underlying ht, sizeOf, typeInfo, hi, Builtin.lenOf, Builtin.firstCells]
    · simp [Builtin.append_, run_underlying ht, sizeOf, typeInfo, hi, Builtin.lenOf, Builtin.firstCells, hnc, storeCells]
  unfold Oper.wp
  simp [execOp, ho, resolve, invoke, builtin, hs, hx, hrun, Result.andThen]
  exact hK _ _ h
theorem own_empty (w : World) (t : Nat) : (w.alloc (Obj.cells #[] t)).ownsRow w.heap.size t 2 (.slice (some ⟨w.heap.size, 0, none⟩) 0 0) 0 [] :=
  ⟨rfl, .inr ⟨w.heap.size, 0, #[], rfl, Nat.le_refl _, heap_alloc_new w _, Nat.le_refl _, Nat.zero_le _, rfl, rfl⟩⟩
/-- The cells of a part of a slice that reads as wants, in a later world. -/
theorem part_cells {W W2 : World} {b off n c : Nat} {ps : List Sp} (h : SpansAt W (.slice (some ⟨b, off, none⟩) n c) ps) (hb : Below W.heap.size W W2) (k m : Nat) :
    ∀ j u, (spansCells ((ps.drop k).take m))[j]? = some u → W2.cell? ((⟨b, off + k * 2, none⟩ : Addr).add j) = some u := by
  intro j u hj
  obtain ⟨A, c', h1, h2, h3, h4, h5⟩ := h.keep hb
  injection h1 with e1 e2 e3
  have hp : 0 < ps.length := by
    have := (List.getElem?_eq_some_iff.1 hj).1
    rw [spansCells_length, List.length_take, List.length_drop] at this
    omega
  obtain ⟨b', off', e, hbl, hcell⟩ := h5 hp
  rw [e] at e1
  cases e1
  rw [Addr.add_lit, Nat.add_assoc]
  refine spansCells_of hcell (k * 2 + j) u ?_
  rw [← spansCells_take, ← spansCells_drop, List.getElem?_take] at hj
  split at hj
  · rwa [List.getElem?_drop] at hj
  · cases hj
/-- The cells of a slice that reads as spans, in a later world. -/
theorem news_of {W W2 : World} {p : Addr} {n c : Nat} {ps : List Sp} (h : SpansAt W (.slice (some p) n c) ps) (hb : Below W.heap.size W W2) : ∀ j u, (spansCells ps)[j]? = some u → W2.cell? (p.add j) = some u := by
  intro j u hj
  obtain ⟨A, c', h1, h2, h3, h4, h5⟩ := h.keep hb
  injection h1 with e1 e2 e3
  have hp : 0 < ps.length := by
    have := (List.getElem?_eq_some_iff.1 hj).1
    rw [spansCells_length] at this; omega
  obtain ⟨b, off, e, hbl, hcell⟩ := h5 hp
  rw [e] at e1
  cases e1
  rw [Addr.add_lit]
  exact spansCells_of hcell j u hj
theorem spans_empty {W : World} {n c : Nat} {ps : List Sp} (h : SpansAt W (.slice none n c) ps) : n = 0 ∧ ps = [] := by
  obtain ⟨A, c', h1, h2, h3, h4, h5⟩ := h
  injection h1 with e1 e2 e3
  subst e1 e2
  rcases Nat.eq_zero_or_pos ps.length with h | h
  · exact ⟨h, List.eq_nil_of_length_eq_zero h⟩
  · obtain ⟨b, off, e, _⟩ := h5 h; cases e

set_option maxRecDepth 100000 in
set_option maxHeartbeats 4000000 in
theorem refPut_any (v : Value) (ps : List Sp) (x : Sp) (w : World) (h : SpansAt w v ps) (hl : ps.length ≤ 1000) :
    Calls Try.prog 20 #[v, .agg #[.int .i64 x.1, .int .i64 x.2]] w (RetO w.heap.size 38 (putT x ps) w) := by
  obtain ⟨i0, hi, hz0, hz1, hz2⟩ := info_parts Try.infoSpan
  have mixed : Try.prog.follows .mixedOrders = true := by kernel_rfl
  have hb0 : Below w.heap.size w (w.alloc (.cells #[.int .i64 x.1, .int .i64 x.2] 38)) := (Below.refl _ _).alloc (Nat.le_refl _) _
  have HB0 := Lib.hid hb0
  have HBOX := Lib.hid (fun w' hb => box_cells w x 38 (w' := w') hb)
  have HX := Lib.hid h
  have HPUT := Lib.hid (fun k hk => put_at x (l := ps) (k := k) hk)
  have HA := Lib.hid (fun y W => refAhead_any x y W)
  have hz : (w.alloc (.cells #[.int .i64 x.1, .int .i64 x.2] 38)).heap.size = w.heap.size + 1 := by simp
  obtain ⟨A, c, rfl, hc1, hlen, hc2, hat⟩ := h
  have HAT := Lib.hid hat
  generalize hn : ps.length = n at *
  have HN := Lib.hid hn
  clear hat hn hb0
  obtain ⟨x1, x2⟩ := x
  simp only at HB0 HBOX HA hz
  go_enter Try.func20, Try.ntmps20
  go_wp2_with fail
  go_loopg [5] n (fun gg s5 wr => ∃ k : Nat, k ≤ n ∧ gg = n - k ∧ s5 = .int .i64 k ∧ Below (w.heap.size + 1) (w.alloc (.cells #[.int .i64 x1, .int .i64 x2] 38)) wr ∧ ∀ (j : Nat) (y : Sp), j < k → ps[j]? = some y → aheadB (x1, x2) y = false)
  case atStart => exact ⟨0, Nat.zero_le _, by omega, rfl, Below.refl _ _, fun j y hj => absurd hj (Nat.not_lt_zero _)⟩
  case round =>
    obtain ⟨k, hkn, hgg, rfl, hbw, hall⟩ := hrel
    have HG := Lib.hid hgg
    have HB := Lib.hid hbw
    have HALL := Lib.hid hall
    have hsz : w.heap.size + 1 ≤ wr.heap.size := by have := hbw.size; omega
    have HBW := Lib.hid (HB0.out.trans (hbw.mono (by omega)))
    obtain ⟨g0, g1, g2⟩ := HBOX.out wr (by rw [hz]; exact hbw)
    clear hgg hbw hall
    by_cases hlt : k < n
    · have hltz : (k : Int) < (n : Int) := by omega
      obtain ⟨b, off, hA, hbl, hcell⟩ := HAT.out (by omega)
      subst hA
      obtain ⟨y, hy⟩ := ex_at (xs := ps) (k := k) (by rw [HN.out]; exact hlt)
      obtain ⟨c1, c2⟩ := (hcell k y hy).keep HBW.out hbl
      have HAY := Lib.hid (HA.out y)
      have HY := Lib.hid hy
      have hblr : b < wr.heap.size := by omega
      obtain ⟨r, hr⟩ : ∃ r, aheadB (x1, x2) y = r := ⟨_, rfl⟩
      rw [hr] at HAY
      have HR := Lib.hid hr
      obtain ⟨y1, y2⟩ := y
      simp only at c1 c2 HAY
      clear hcell hy hr
      go_wp2_with fail
      go_region_held3 (fun w' => w'.cell? ⟨w.heap.size, 0, none⟩ = some (.int .i64 x1) ∧ w'.cell? ⟨w.heap.size, 1, none⟩ = some (.int .i64 x2) ∧ w'.cell? ⟨b, off + k * 2, none⟩ = some (.int .i64 y1) ∧ w'.cell? ⟨b, off + k * 2 + 1, none⟩ = some (.int .i64 y2))
        (first | go_keep | exact ⟨(hb.cell (p := ⟨w.heap.size, 0, none⟩) g2).trans g0, (hb.cell (p := ⟨w.heap.size, 1, none⟩) g2).trans g1, (hb.cell (p := ⟨b, off + k * 2, none⟩) hblr).trans c1, (hb.cell (p := ⟨b, off + k * 2 + 1, none⟩) hblr).trans c2⟩)
        (first | (go_at_call 24; refine (HAY.out _).mono ?_; rintro e w' ⟨rfl, hb⟩))
      have HW : Hid (Below wr.heap.size wr w') := (Below.refl _ wr).drew.trans hb
      have HB5 := Lib.hid (HB.out.trans (HW.out.mono hsz))
      clear hb
      cases r
      · have HALL2 : Hid (∀ (j : Nat) (y : Sp), j < k + 1 → ps[j]? = some y → aheadB (x1, x2) y = false) := fun j z hj hz => by
          by_cases e : j = k
          · subst e
            rw [HY.out] at hz
            cases hz
            exact HR.out
          · exact HALL.out j z (by omega) hz
        go_wp2_with fail
        go_roundg (n - (k + 1))
        case measure => have := HG.out; omega
        case rel => exact ⟨k + 1, by omega, rfl, by go_num, HB5.out, HALL2.out⟩
      · have HFA : Hid (FirstAhead (x1, x2) ps k) := ⟨by have := HN.out; omega, HALL.out, fun z hz => by
          rw [HY.out] at hz
          cases hz
          exact HR.out⟩
        have HS5 : w.heap.size + 1 ≤ w'.heap.size := by have := HB5.out.size; omega
        have HO5 := Lib.hid (own_empty w' 38)
        have HBA : Hid (Below (w.heap.size + 1) (w.alloc (.cells #[.int .i64 x1, .int .i64 x2] 38)) (w'.alloc (Obj.cells #[] 38))) := HB5.out.alloc HS5 _
        have HBAW := Lib.hid (HB0.out.trans (HBA.out.mono (by omega)))
        have HN1 : Hid (∀ j u, (spansCells (ps.take k))[j]? = some u → (w'.alloc (Obj.cells #[] 38)).cell? ((⟨b, off, none⟩ : Addr).add j) = some u) := fun j u hj => by
          refine news_of HX.out HBAW.out j u ?_
          rw [← spansCells_take, List.getElem?_take] at hj
          split at hj
          · exact hj
          · cases hj
        have HL1 : Hid ((spansCells (ps.take k)).length = k * 2) := by
          show _ = _
          rw [spansCells_length, List.length_take]
          have := HN.out
          omega
        have HE1 := Lib.hid (spansCells_one (ps.take k))
        have HM1 := Lib.hid (show 0 + k ≤ maxLen by unfold maxLen; omega)
        have HY1 := Lib.hid (show (0 + k) * 16 ≤ 140737488355328 by omega)
        have HZ1 := Lib.hid (show w'.heap.size ≤ (w'.alloc (Obj.cells #[] 38)).heap.size by simp)
        have hkc : (k : Int) ≤ (c : Int) := by omega
        have hk00 : (0 : Int) ≤ (k : Int) := by omega
        go_wp2_with (at_builtin; refine wpList_append_own _ rfl _ _ 30 rfl w'.heap.size 38 i0 (.agg #[.int .i64 0, .int .i64 0]) 2 16 Try.underlying30 hi hz0 hz1 hz2 rfl (by decide) _ _ _ rfl HO5.out ⟨b, off, none⟩ k c (spansCells (ps.take k)) rfl HL1.out HN1.out HE1.out HM1.out HY1.out HZ1.out ?_)
        intro v6 w6 hown6 hgrow6 _
        have HO6 := Lib.hid hown6
        have HB6 := Lib.hid (HBA.out.trans ((below_grown5 hgrow6 HZ1.out (own_base5 HO5.out)).mono HS5))
        have HS6 : w'.heap.size ≤ w6.heap.size := by have := (below_grown5 hgrow6 HZ1.out (own_base5 HO5.out)).size; simp at this; omega
        clear hown6 hgrow6 HN1 HL1 HE1
        obtain ⟨g60, g61, g62⟩ := HBOX.out w6 (by rw [hz]; exact HB6.out)
        have HO6a := Lib.hid (own_below5 HO6.out ((Below.refl _ w6).alloc (Nat.le_refl _) (Obj.cells #[.int .i64 x1, .int .i64 x2] 38)))
        have HB6a : Hid (Below (w.heap.size + 1) (w.alloc (.cells #[.int .i64 x1, .int .i64 x2] 38)) (w6.alloc (Obj.cells #[.int .i64 x1, .int .i64 x2] 38))) := HB6.out.alloc (by omega) _
        have HN2 := Lib.hid (news_two w6 w6.heap.size rfl 38 x1 x2)
        have HE2 := Lib.hid (show ∀ u ∈ [Value.int .i64 x1, .int .i64 x2], u.oneCell' = true from fun u hu => by simp at hu; rcases hu with rfl | rfl <;> rfl)
        have HM2 := Lib.hid (show k + 1 ≤ maxLen by unfold maxLen; omega)
        have HY2 := Lib.hid (show (k + 1) * 16 ≤ 140737488355328 by omega)
        have HZ2 := Lib.hid (show w'.heap.size ≤ (w6.alloc (Obj.cells #[.int .i64 x1, .int .i64 x2] 38)).heap.size by simp; omega)
        go_wp2_with (at_builtin; refine wpList_append_own _ rfl _ _ 30 rfl w'.heap.size 38 i0 (.agg #[.int .i64 0, .int .i64 0]) 2 16 Try.underlying30 hi hz0 hz1 hz2 rfl (by decide) _ _ _ rfl HO6a.out ⟨w6.heap.size, 0, none⟩ 1 1 [.int .i64 x1, .int .i64 x2] rfl rfl HN2.out HE2.out HM2.out HY2.out HZ2.out ?_)
        intro v7 w7 hown7 hgrow7 _
        have HO7 := Lib.hid hown7
        have HB7 := Lib.hid (HB6a.out.trans ((below_grown5 hgrow7 HZ2.out (own_base5 HO6a.out)).mono HS5))
        have HS7 : w'.heap.size ≤ w7.heap.size := by have := (below_grown5 hgrow7 HZ2.out (own_base5 HO6a.out)).size; simp at this; omega
        clear hown7 hgrow7 g60 g61 g62
        have HB7W := Lib.hid (HB0.out.trans (HB7.out.mono (by omega)))
        have HN3 : Hid (∀ j u, (spansCells (ps.drop k))[j]? = some u → w7.cell? ((⟨b, off + k * 2, none⟩ : Addr).add j) = some u) := fun j u hj => by
          refine part_cells HX.out HB7W.out k n j u ?_
          rwa [List.take_of_length_le (by rw [List.length_drop]; have := HN.out; omega)]
        have HL3 : Hid ((spansCells (ps.drop k)).length = (n - k) * 2) := by
          show _ = _
          rw [spansCells_length, List.length_drop, HN.out]
        have HE3 := Lib.hid (spansCells_one (ps.drop k))
        have HM3 := Lib.hid (show k + 1 + (n - k) ≤ maxLen by unfold maxLen; omega)
        have HY3 := Lib.hid (show (k + 1 + (n - k)) * 16 ≤ 140737488355328 by omega)
        have HZ3 := Lib.hid HS7
        have hck : ¬ (c = k) := by omega
        have hkn' : (k : Int) ≤ (n : Int) := by omega
        go_wp2_with (at_builtin; refine wpList_append_own _ rfl _ _ 30 rfl w'.heap.size 38 i0 (.agg #[.int .i64 0, .int .i64 0]) 2 16 Try.underlying30 hi hz0 hz1 hz2 rfl (by decide) _ _ _ rfl HO7.out ⟨b, off + k * 2, none⟩ (n - k) (c - k) (spansCells (ps.drop k)) rfl HL3.out HN3.out HE3.out HM3.out HY3.out HZ3.out ?_)
        intro v8 w8 hown8 hgrow8 _
        have HO8 := Lib.hid hown8
        have HB8 := Lib.hid (HB7W.out.trans ((below_grown5 hgrow8 HZ3.out (own_base5 HO7.out)).mono (by omega)))
        clear hown8 hgrow8
        go_wp2
        go_ret
        refine ⟨_, rfl, ?_, HB8.out⟩
        have h8 := HO8.out
        rw [HPUT.out k HFA.out]
        have e1 : (ps.take k ++ [(x1, x2)] ++ ps.drop k).length = n + 1 := by have := HN.out; simp; omega
        have e2 : k + 1 + (n - k) = n + 1 := by omega
        rw [e1, spansCells_append, spansCells_snoc, List.append_assoc]
        try rw [e2] at h8
        exact own_mono5 (base := w'.heap.size) h8 (by omega)
    · have hke : k = n := by omega
      have hltz : ¬ (k : Int) < (n : Int) := by omega
      have HFA : Hid (FirstAhead (x1, x2) ps k) := ⟨by have := HN.out; omega, HALL.out, fun z hz => by
        rw [List.getElem?_eq_none (by have := HN.out; omega)] at hz
        cases hz⟩
      subst hke
      clear hlt hltz
      have hltz : ((k : Int) < (k : Int)) = False := by simp
      cases A with
      | none =>
        obtain ⟨hk0, hnil⟩ := spans_empty HX.out
        subst hnil hk0
        go_wp2_with fail
        go_quiet (fail)
        have HB5 := Lib.hid (below_drewN HB.out nq)
        generalize wr.drewN nq = wq at *
        have HS5 : w.heap.size + 1 ≤ wq.heap.size := by have := HB5.out.size; omega
        have HO5 := Lib.hid (own_empty wq 38)
        have HBA : Hid (Below (w.heap.size + 1) (w.alloc (.cells #[.int .i64 x1, .int .i64 x2] 38)) (wq.alloc (Obj.cells #[] 38))) := HB5.out.alloc HS5 _
        obtain ⟨g60, g61, g62⟩ := HBOX.out _ (by rw [hz]; exact HBA.out)
        have HO6a := Lib.hid (own_below5 HO5.out ((Below.refl _ (wq.alloc (Obj.cells #[] 38))).alloc (Nat.le_refl _) (Obj.cells #[.int .i64 x1, .int .i64 x2] 38)))
        have HB6a : Hid (Below (w.heap.size + 1) (w.alloc (.cells #[.int .i64 x1, .int .i64 x2] 38)) ((wq.alloc (Obj.cells #[] 38)).alloc (Obj.cells #[.int .i64 x1, .int .i64 x2] 38))) := HBA.out.alloc (by simp; omega) _
        have HN2 := Lib.hid (news_two (wq.alloc (Obj.cells #[] 38)) (wq.heap.size + 1) (by simp) 38 x1 x2)
        have HE2 := Lib.hid (show ∀ u ∈ [Value.int .i64 x1, .int .i64 x2], u.oneCell' = true from fun u hu => by simp at hu; rcases hu with rfl | rfl <;> rfl)
        have HM2 := Lib.hid (show 0 + 1 ≤ maxLen by unfold maxLen; omega)
        have HY2 := Lib.hid (show (0 + 1) * 16 ≤ 140737488355328 by omega)
        have HZ2 := Lib.hid (show wq.heap.size ≤ ((wq.alloc (Obj.cells #[] 38)).alloc (Obj.cells #[.int .i64 x1, .int .i64 x2] 38)).heap.size by simp; omega)
        go_wp2_with (first
          | (at_builtin; refine wpList_append_none5 rfl _ _ 30 rfl wq.heap.size 38 i0 2 Try.underlying30 hi _ _ _ rfl HO5.out c rfl ?_)
          | (at_builtin; refine wpList_append_own _ rfl _ _ 30 rfl wq.heap.size 38 i0 (.agg #[.int .i64 0, .int .i64 0]) 2 16 Try.underlying30 hi hz0 hz1 hz2 rfl (by decide) _ _ _ rfl HO6a.out ⟨wq.heap.size + 1, 0, none⟩ 1 1 [.int .i64 x1, .int .i64 x2] rfl rfl HN2.out HE2.out HM2.out HY2.out HZ2.out ?_))
        all_goals
          intro v7 w7 hown7 hgrow7 _
          have HO7 := Lib.hid hown7
          have HB7 := Lib.hid (HB6a.out.trans ((below_grown5 hgrow7 HZ2.out (own_base5 HO6a.out)).mono HS5))
          clear hown7 hgrow7 g60 g61 g62
          by_cases hck : c = 0
          all_goals
            go_wp2_with (at_builtin; refine wpList_append_none5 rfl _ _ 30 rfl wq.heap.size 38 i0 2 Try.underlying30 hi _ _ _ rfl HO7.out _ rfl ?_)
            go_ret
            exact ⟨_, rfl, own_mono5 (base := wq.heap.size) HO7.out (by omega), HB0.out.trans (HB7.out.mono (by omega))⟩
      | some a =>
        go_wp2_with fail
        go_quiet (fail)
        have HB5 := Lib.hid (below_drewN HB.out nq)
        generalize wr.drewN nq = wq at *
        have HS5 : w.heap.size + 1 ≤ wq.heap.size := by have := HB5.out.size; omega
        have HO5 := Lib.hid (own_empty wq 38)
        have HBA : Hid (Below (w.heap.size + 1) (w.alloc (.cells #[.int .i64 x1, .int .i64 x2] 38)) (wq.alloc (Obj.cells #[] 38))) := HB5.out.alloc HS5 _
        have HBAW := Lib.hid (HB0.out.trans (HBA.out.mono (by omega)))
        have HN1 : Hid (∀ j u, (spansCells (ps.take k))[j]? = some u → (wq.alloc (Obj.cells #[] 38)).cell? ((a : Addr).add j) = some u) := fun j u hj => by
          refine news_of HX.out HBAW.out j u ?_
          rw [← spansCells_take, List.getElem?_take] at hj
          split at hj
          · exact hj
          · cases hj
        have HL1 : Hid ((spansCells (ps.take k)).length = k * 2) := by
          show _ = _
          rw [spansCells_length, List.length_take]
          have := HN.out
          omega
        have HE1 := Lib.hid (spansCells_one (ps.take k))
        have HM1 := Lib.hid (show 0 + k ≤ maxLen by unfold maxLen; omega)
        have HY1 := Lib.hid (show (0 + k) * 16 ≤ 140737488355328 by omega)
        have HZ1 := Lib.hid (show wq.heap.size ≤ (wq.alloc (Obj.cells #[] 38)).heap.size by simp)
        have hkc : (k : Int) ≤ (c : Int) := by omega
        have hk00 : (0 : Int) ≤ (k : Int) := by omega
        go_wp2_with (at_builtin; refine wpList_append_own _ rfl _ _ 30 rfl wq.heap.size 38 i0 (.agg #[.int .i64 0, .int .i64 0]) 2 16 Try.underlying30 hi hz0 hz1 hz2 rfl (by decide) _ _ _ rfl HO5.out a k c (spansCells (ps.take k)) rfl HL1.out HN1.out HE1.out HM1.out HY1.out HZ1.out ?_)
        intro v6 w6 hown6 hgrow6 _
        have HO6 := Lib.hid hown6
        have HB6 := Lib.hid (HBA.out.trans ((below_grown5 hgrow6 HZ1.out (own_base5 HO5.out)).mono HS5))
        have HS6 : wq.heap.size ≤ w6.heap.size := by have := (below_grown5 hgrow6 HZ1.out (own_base5 HO5.out)).size; simp at this; omega
        clear hown6 hgrow6 HN1 HL1 HE1
        obtain ⟨g60, g61, g62⟩ := HBOX.out w6 (by rw [hz]; exact HB6.out)
        have HO6a := Lib.hid (own_below5 HO6.out ((Below.refl _ w6).alloc (Nat.le_refl _) (Obj.cells #[.int .i64 x1, .int .i64 x2] 38)))
        have HB6a : Hid (Below (w.heap.size + 1) (w.alloc (.cells #[.int .i64 x1, .int .i64 x2] 38)) (w6.alloc (Obj.cells #[.int .i64 x1, .int .i64 x2] 38))) := HB6.out.alloc (by omega) _
        have HN2 := Lib.hid (news_two w6 w6.heap.size rfl 38 x1 x2)
        have HE2 := Lib.hid (show ∀ u ∈ [Value.int .i64 x1, .int .i64 x2], u.oneCell' = true from fun u hu => by simp at hu; rcases hu with rfl | rfl <;> rfl)
        have HM2 := Lib.hid (show k + 1 ≤ maxLen by unfold maxLen; omega)
        have HY2 := Lib.hid (show (k + 1) * 16 ≤ 140737488355328 by omega)
        have HZ2 := Lib.hid (show wq.heap.size ≤ (w6.alloc (Obj.cells #[.int .i64 x1, .int .i64 x2] 38)).heap.size by simp; omega)
        go_wp2_with (at_builtin; refine wpList_append_own _ rfl _ _ 30 rfl wq.heap.size 38 i0 (.agg #[.int .i64 0, .int .i64 0]) 2 16 Try.underlying30 hi hz0 hz1 hz2 rfl (by decide) _ _ _ rfl HO6a.out ⟨w6.heap.size, 0, none⟩ 1 1 [.int .i64 x1, .int .i64 x2] rfl rfl HN2.out HE2.out HM2.out HY2.out HZ2.out ?_)
        intro v7 w7 hown7 hgrow7 _
        have HO7 := Lib.hid hown7
        have HB7 := Lib.hid (HB6a.out.trans ((below_grown5 hgrow7 HZ2.out (own_base5 HO6a.out)).mono HS5))
        have HS7 : wq.heap.size ≤ w7.heap.size := by have := (below_grown5 hgrow7 HZ2.out (own_base5 HO6a.out)).size; simp at this; omega
        clear hown7 hgrow7 g60 g61 g62
        have HB7W := Lib.hid (HB0.out.trans (HB7.out.mono (by omega)))
        have HDN : Hid (spansCells (ps.drop k) = []) := by
          show _ = _
          rw [List.drop_eq_nil_of_le (by have := HN.out; omega)]
          rfl
        have HSN := Lib.hid (spansCells_snoc (ps.take k) (x1, x2))
        have HFINAL : Hid (∀ (v : Value) (w'' : World), w''.ownsRow wq.heap.size 38 2 v (k + 1) (spansCells (ps.take k) ++ [Value.int .i64 x1, .int .i64 x2]) → w''.ownsRow w.heap.size 38 2 v (putT (x1, x2) ps).length (spansCells (putT (x1, x2) ps))) := fun v w'' hh => by
          rw [HPUT.out k HFA.out]
          have e1 : (ps.take k ++ [(x1, x2)] ++ ps.drop k).length = k + 1 := by have := HN.out; simp; omega
          rw [e1, spansCells_append, HDN.out, List.append_nil, HSN.out]
          exact own_mono5 (base := wq.heap.size) hh (by omega)
        have HM3 := Lib.hid (show k + 1 + 0 ≤ maxLen by unfold maxLen; omega)
        have HY3 := Lib.hid (show (k + 1 + 0) * 16 ≤ 140737488355328 by omega)
        have HZ3 := Lib.hid HS7
        by_cases hck : c = k
        · subst hck
          go_wp2_with (at_builtin; refine wpList_append_own _ rfl _ _ 30 rfl wq.heap.size 38 i0 (.agg #[.int .i64 0, .int .i64 0]) 2 16 Try.underlying30 hi hz0 hz1 hz2 rfl (by decide) _ _ _ rfl HO7.out _ 0 _ [] rfl rfl (fun j u hj => by simp at hj) (fun u hu => by simp at hu) HM3.out HY3.out HZ3.out ?_)
          intro v8 w8 hown8 hgrow8 _
          have HO8 := Lib.hid hown8
          have HB8 := Lib.hid (HB7W.out.trans ((below_grown5 hgrow8 HZ3.out (own_base5 HO7.out)).mono (by omega)))
          clear hown8 hgrow8
          go_wp2
          go_ret
          exact ⟨_, rfl, HFINAL.out _ _ HO8.out, HB8.out⟩
        · skip
          go_wp2_with (at_builtin; refine wpList_append_own _ rfl _ _ 30 rfl wq.heap.size 38 i0 (.agg #[.int .i64 0, .int .i64 0]) 2 16 Try.underlying30 hi hz0 hz1 hz2 rfl (by decide) _ _ _ rfl HO7.out _ 0 _ [] rfl rfl (fun j u hj => by simp at hj) (fun u hu => by simp at hu) HM3.out HY3.out HZ3.out ?_)
          intro v8 w8 hown8 hgrow8 _
          have HO8 := Lib.hid hown8
          have HB8 := Lib.hid (HB7W.out.trans ((below_grown5 hgrow8 HZ3.out (own_base5 HO7.out)).mono (by omega)))
          clear hown8 hgrow8
          go_wp2
          go_ret
          exact ⟨_, rfl, HFINAL.out _ _ HO8.out, HB8.out⟩
set_option maxRecDepth 100000 in
set_option maxHeartbeats 2000000 in
theorem refSort_any (v : Value) (ps : List Sp) (w : World) (h : SpansAt w v ps) (hl : ps.length ≤ 1000) :
    Calls Try.prog 16 #[v] w (RetS (sortT ps) w) := by
  obtain ⟨A, c, rfl, hc1, hlen, hc2, hat⟩ := h
  have HAT := Lib.hid hat
  have HP := Lib.hid (fun v qs x w h hl => refPut_any v qs x w h hl)
  generalize hn : ps.length = n at *
  have HN := Lib.hid hn
  clear hat hn
  go_enter Try.func16, Try.ntmps16
  go_wp2_with fail
  go_loopg [3, 4] n (fun gg s3 s4 wr => ∃ i : Nat, i ≤ n ∧ gg = n - i ∧ s4 = .int .i64 i ∧ Below w.heap.size w wr ∧ SpansAt wr s3 (sortT (ps.take i)))
  case atStart => exact ⟨0, Nat.zero_le _, by omega, rfl, (Below.refl _ _).alloc (Nat.le_refl _) _, spans_of_own (own_empty w 38) (by rw [sortT_length]; simp)⟩
  case round =>
    obtain ⟨i, hin, hgg, rfl, hbw, hsp⟩ := hrel
    have HG := Lib.hid hgg
    have HB := Lib.hid hbw
    have HS := Lib.hid hsp
    have hsz := hbw.size
    clear hgg hbw hsp
    by_cases hlt : i < n
    · have hltz : (i : Int) < (n : Int) := by omega
      obtain ⟨b, off, hA, hbl, hcell⟩ := HAT.out (by omega)
      subst hA
      obtain ⟨y, hy⟩ := ex_at (xs := ps) (k := i) (by rw [HN.out]; exact hlt)
      obtain ⟨c1, c2⟩ := (hcell i y hy).keep HB.out hbl
      have HC := Lib.hid (HP.out _ _ y _ HS.out (by rw [sortT_length, List.length_take]; omega))
      have HE : Hid (putT y (sortT (ps.take i)) = sortT (ps.take (i + 1))) := by
        show _ = _
        rw [take_succ_of hy, sortT_snoc]
      have HL := Lib.hid (show (putT y (sortT (ps.take i))).length ≤ 100000 by rw [HE.out, sortT_length, List.length_take]; omega)
      obtain ⟨y1, y2⟩ := y
      simp only at c1 c2 HC
      clear hcell hy
      go_wp2_with (go_at_call 20; refine HC.out.mono ?_; rintro e w' ⟨v', rfl, hown, hb⟩)
      have HS2 := Lib.hid (spans_of_own hown HL.out)
      have HB2 := Lib.hid (HB.out.trans (hb.mono hsz))
      clear hown hb
      rw [HE.out] at HS2
      go_wp2
      go_roundg (n - (i + 1))
      case measure => have := HG.out; omega
      case rel => exact ⟨i + 1, by omega, rfl, by go_num, HB2.out, HS2.out⟩
    · have hin' : i = n := by omega
      subst hin'
      have hltz : ¬ (i : Int) < (i : Int) := by omega
      rw [List.take_of_length_le (by rw [HN.out]; exact Nat.le_refl _)] at HS
      go_wp2
      go_ret
      exact ⟨_, rfl, HS.out, HB.out⟩

theorem without_take {u : Int} {ps : List Sp} {i : Nat} {y : Sp} (h : ps[i]? = some y) : withoutT u (ps.take (i + 1)) = withoutT u (ps.take i) ++ (if y.1 = u then [] else [y]) := by
  unfold withoutT
  rw [take_succ_of h, List.filter_append]
  congr 1
  by_cases e : y.1 = u <;> simp [e]

set_option maxRecDepth 100000 in
set_option maxHeartbeats 2000000 in
theorem refWithout_any (v : Value) (ps : List Sp) (u : Int) (w : World) (h : SpansAt w v ps) (hl : ps.length ≤ 1000) :
    Calls Try.prog 22 #[v, .int .i64 u] w (RetO w.heap.size 38 (withoutT u ps) w) := by
  obtain ⟨i0, hi, hz0, hz1, hz2⟩ := info_parts Try.infoSpan
  obtain ⟨A, c, rfl, hc1, hlen, hc2, hat⟩ := h
  have HAT := Lib.hid hat
  generalize hn : ps.length = n at *
  have HN := Lib.hid hn
  clear hat hn
  go_enter Try.func22, Try.ntmps22
  go_wp2_with fail
  go_loopg [5, 6] n (fun gg s5 s6 wr => ∃ i : Nat, i ≤ n ∧ gg = n - i ∧ s6 = .int .i64 i ∧ Below w.heap.size w wr ∧ wr.ownsRow w.heap.size 38 2 s5 (withoutT u (ps.take i)).length (spansCells (withoutT u (ps.take i))))
  case atStart => exact ⟨0, Nat.zero_le _, by omega, rfl, (Below.refl _ _).alloc (Nat.le_refl _) _, own_empty w 38⟩
  case round =>
    obtain ⟨i, hin, hgg, rfl, hbw, hown⟩ := hrel
    have HG := Lib.hid hgg
    have HB := Lib.hid hbw
    have HO := Lib.hid hown
    have hsz := hbw.size
    clear hgg hbw hown
    by_cases hlt : i < n
    · have hltz : (i : Int) < (n : Int) := by omega
      obtain ⟨b, off, hA, hbl, hcell⟩ := HAT.out (by omega)
      subst hA
      obtain ⟨y, hy⟩ := ex_at (xs := ps) (k := i) (by rw [HN.out]; exact hlt)
      obtain ⟨c1, c2⟩ := (hcell i y hy).keep HB.out hbl
      have hwl : (withoutT u (ps.take i)).length ≤ i := by
        have := List.length_filter_le (fun s : Sp => !decide (s.1 = u)) (ps.take i)
        rw [List.length_take] at this
        unfold withoutT
        omega
      have HT := Lib.hid (without_take (u := u) hy)
      by_cases he : y.1 = u
      · rw [if_pos he, List.append_nil] at HT
        obtain ⟨y1, y2⟩ := y
        simp only at c1 c2 he
        have hq : (y1 != u) = false := by simp [he]
        clear hcell hy he
        go_wp2_with fail
        go_roundg (n - (i + 1))
        case measure => have := HG.out; omega
        case rel =>
          refine ⟨i + 1, by omega, rfl, by go_num, HB.out, ?_⟩
          rw [HT.out]
          exact HO.out
      · rw [if_neg he] at HT
        obtain ⟨y1, y2⟩ := y
        simp only at c1 c2 he
        have hq : (y1 != u) = true := by simp [he]
        generalize withoutT u (ps.take i) = row at *
        have HOA := Lib.hid (own_below5 HO.out ((Below.refl _ wr).alloc (Nat.le_refl _) (Obj.cells #[.int .i64 y1, .int .i64 y2] 38)))
        have HBA := Lib.hid (HB.out.alloc hsz (Obj.cells #[.int .i64 y1, .int .i64 y2] 38))
        have HN2 := Lib.hid (news_two wr wr.heap.size rfl 38 y1 y2)
        have HE2 := Lib.hid (show ∀ s ∈ [Value.int .i64 y1, .int .i64 y2], s.oneCell' = true from fun s hs => by simp at hs; rcases hs with rfl | rfl <;> rfl)
        have HM2 := Lib.hid (show row.length + 1 ≤ maxLen by unfold maxLen; omega)
        have HY2 := Lib.hid (show (row.length + 1) * 16 ≤ 140737488355328 by omega)
        have HZ2 := Lib.hid (show w.heap.size ≤ (wr.alloc (Obj.cells #[.int .i64 y1, .int .i64 y2] 38)).heap.size by simp; omega)
        clear hcell hy he
        go_wp2_with (at_builtin; refine wpList_append_own _ rfl _ _ 30 rfl w.heap.size 38 i0 (.agg #[.int .i64 0, .int .i64 0]) 2 16 Try.underlying30 hi hz0 hz1 hz2 rfl (by decide) _ _ _ rfl HOA.out ⟨wr.heap.size, 0, none⟩ 1 1 [.int .i64 y1, .int .i64 y2] rfl rfl HN2.out HE2.out HM2.out HY2.out HZ2.out ?_)
        intro v4 w4 hown4 hgrow4 _
        have HO4 := Lib.hid hown4
        have HB4 := Lib.hid (HBA.out.trans (below_grown5 hgrow4 HZ2.out (own_base5 HOA.out)))
        clear hown4 hgrow4
        go_wp2
        go_roundg (n - (i + 1))
        case measure => have := HG.out; omega
        case rel =>
          refine ⟨i + 1, by omega, rfl, by go_num, HB4.out, ?_⟩
          rw [HT.out, spansCells_snoc, List.length_append]
          exact HO4.out
    · have hin' : i = n := by omega
      subst hin'
      have hltz : ¬ (i : Int) < (i : Int) := by omega
      rw [List.take_of_length_le (by rw [HN.out]; exact Nat.le_refl _)] at HO
      go_wp2
      go_ret
      exact ⟨_, rfl, HO.out, HB.out⟩
end Go.Proofs.Ytiikddemjjikfaa
