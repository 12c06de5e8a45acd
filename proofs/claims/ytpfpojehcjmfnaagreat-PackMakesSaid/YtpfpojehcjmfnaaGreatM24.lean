/-
  First fit by falling sizes, of the document.
  Conditions: the slices read as places, as wants; the numbers are of their kinds; the wants may be placed; both are short.
-/
import Derived.Test.YtpfpojehcjmfnaaGreatM17
import Derived.Test.YtpfpojehcjmfnaaGreatM01
import Derived.Laws.OwnMore
import Derived.Test.YtpfpojehcjmfnaaGreatM18

/-
  Put and Sort of wants, of the document.
  Conditions: the slice reads as wants.
-/
set_option linter.unusedVariables false
namespace Go.Proofs.YtpfpojehcjmfnaaGreat
open Go.RowKit

theorem spansCells_drop : ∀ (ps : List Sp) (i : Nat), (spansCells ps).drop (i * 2) = spansCells (ps.drop i)
  | [], i => by simp [spansCells]
  | p :: ps, 0 => by simp [spansCells]
  | p :: ps, i + 1 => by
    rw [spansCells_cons, show (i + 1) * 2 = i * 2 + 1 + 1 by omega, List.drop_succ_cons, List.drop_succ_cons, spansCells_drop ps i, List.drop_succ_cons]
theorem box_cells (w : World) (x : Sp) (t : Nat) {w' : World} (h : Below (w.alloc (.cells #[.int .i64 x.1, .int .i64 x.2] t)).heap.size (w.alloc (.cells #[.int .i64 x.1, .int .i64 x.2] t)) w') :
    w'.cell? ⟨w.heap.size, 0, none⟩ = some (.int .i64 x.1) ∧ w'.cell? ⟨w.heap.size, 1, none⟩ = some (.int .i64 x.2) ∧ w.heap.size < w'.heap.size := by
  have hs := h.size
  have e : (w.alloc (.cells #[.int .i64 x.1, .int .i64 x.2] t)).heap.size = w.heap.size + 1 := by simp
  refine ⟨(h.cell (p := ⟨w.heap.size, 0, none⟩) (by simp)).trans (by simp), (h.cell (p := ⟨w.heap.size, 1, none⟩) (by simp)).trans (by simp), by omega⟩
/-- Nothing is appended to a row of the call's own: from a nil slice, whatever it says of its room. -/
theorem wpList_append_none5R {P : Program} {w : World} {ops : Array Oper} {rest : List Oper} {o : Oper} {a : Act} {Q : Exit → Act → World → Prop} (hgd : o.guard = none) (s x : Operand) (t : TypeId)
    (ho : o.op = .call { callee := .builtin .append, args := #[s, x], argTypes := #[t, t] })
    (base : Nat) (e : TypeId) (i : TypeInfo) (size : Nat) (ht : P.underlying t = some (.slice e)) (hi : P.info? e = some i)
    (v : Value) (n : Nat) (xs : List Value) (hs : a.eval s = v) (hown : w.ownsRow base e size v n xs) (c : Nat) (hx : a.eval x = .slice none 0 c)
    (h : wpList P ops Q rest (a.put o.dst v) w) : wpList P ops Q (o :: rest) a w := by
  refine wpList_plain hgd fun K hK => ?_
  have hrun : (Builtin.append_ #[t, t] o.type #[v, .slice none 0 c]).run P w = .ok v w := by
    rcases hown.2 with ⟨rfl, rfl⟩ | ⟨g, cap, cur, rfl, _, _, hnc, _⟩
    · simp [Builtin.append_, run_underlying ht, sizeOf, typeInfo, hi, Builtin.lenOf, Builtin.firstCells]
    · simp [Builtin.append_, run_underlying ht, sizeOf, typeInfo, hi, Builtin.lenOf, Builtin.firstCells, hnc, storeCells]
  unfold Oper.wp
  simp [execOp, ho, resolve, invoke, builtin, hs, hx, hrun, Result.andThen]
  exact hK _ _ h
theorem own_emptyW (w : World) (t : Nat) : (w.alloc (Obj.cells #[] t)).ownsRow w.heap.size t 2 (.slice (some ⟨w.heap.size, 0, none⟩) 0 0) 0 [] :=
  ⟨rfl, .inr ⟨w.heap.size, 0, #[], rfl, Nat.le_refl _, heap_alloc_new w _, Nat.le_refl _, Nat.zero_le _, rfl, rfl⟩⟩
/-- The cells of a part of a slice that reads as wants, in a later world. -/
theorem part_cells {W W2 : World} {b off n c : Nat} {ps : List Sp} (h : SpansAt W (.slice (some ⟨b, off, none⟩) n c) ps) (hb : Below W.heap.size W W2) (k m : Nat) :
    ∀ j u, (spansCells ((ps.drop k).take m))[j]? = some u → W2.cell? ((⟨b, off + k * 2, none⟩ : Addr).add j) = some u := by
  intro j u hj
  obtain ⟨A, c', h1, h2, h3, h4, h5⟩ := h.keep hb
  injection h1 with e1 e2 e3
  have hp : 0 < ps.length := by
    have := (List.getElem?_eq_some_iff.1 hj).1
    rw [spansCells_length, List.length_take, List.length_drop] at this
    omega
  obtain ⟨b', off', e, hbl, hcell⟩ := h5 hp
  rw [e] at e1
  cases e1
  rw [Addr.add_lit, Nat.add_assoc]
  refine spansCells_of hcell (k * 2 + j) u ?_
  rw [← spansCells_take, ← spansCells_drop, List.getElem?_take] at hj
  split at hj
  · rwa [List.getElem?_drop] at hj
  · cases hj
/-- The cells of a slice that reads as spans, in a later world. -/
theorem news_ofR {W W2 : World} {p : Addr} {n c : Nat} {ps : List Sp} (h : SpansAt W (.slice (some p) n c) ps) (hb : Below W.heap.size W W2) : ∀ j u, (spansCells ps)[j]? = some u → W2.cell? (p.add j) = some u := by
  intro j u hj
  obtain ⟨A, c', h1, h2, h3, h4, h5⟩ := h.keep hb
  injection h1 with e1 e2 e3
  have hp : 0 < ps.length := by
    have := (List.getElem?_eq_some_iff.1 hj).1
    rw [spansCells_length] at this; omega
  obtain ⟨b, off, e, hbl, hcell⟩ := h5 hp
  rw [e] at e1
  cases e1
  rw [Addr.add_lit]
  exact spansCells_of hcell j u hj
theorem spans_emptyR {W : World} {n c : Nat} {ps : List Sp} (h : SpansAt W (.slice none n c) ps) : n = 0 ∧ ps = [] := by
  obtain ⟨A, c', h1, h2, h3, h4, h5⟩ := h
  injection h1 with e1 e2 e3
  subst e1 e2
  rcases Nat.eq_zero_or_pos ps.length with h | h
  · exact ⟨h, List.eq_nil_of_length_eq_zero h⟩
  · obtain ⟨b, off, e, _⟩ := h5 h; cases e

set_option maxRecDepth 100000 in
set_option maxHeartbeats 4000000 in
theorem refPutW_any (v : Value) (ps : List Sp) (x : Sp) (w : World) (h : SpansAt w v ps) (hl : ps.length ≤ 1000) :
    Calls Tryz.prog 140 #[v, .agg #[.int .i64 x.1, .int .i64 x.2]] w (RetO w.heap.size 52 (putT x ps) w) := by
  obtain ⟨i0, hi, hz0, hz1, hz2⟩ := info_parts Tryz.infoSpan
  have mixed : Tryz.prog.follows .mixedOrders = true := by kernel_rfl
  have hb0 : Below w.heap.size w (w.alloc (.cells #[.int .i64 x.1, .int .i64 x.2] 52)) := (Below.refl _ _).alloc (Nat.le_refl _) _
  have HB0 := Lib.hid hb0
  have HBOX := Lib.hid (fun w' hb => box_cells w x 52 (w' := w') hb)
  have HX := Lib.hid h
  have HPUT := Lib.hid (fun k hk => put_at x (l := ps) (k := k) hk)
  have HA := Lib.hid (fun y W => refAhead_any x y W)
  have hz : (w.alloc (.cells #[.int .i64 x.1, .int .i64 x.2] 52)).heap.size = w.heap.size + 1 := by simp
  obtain ⟨A, c, rfl, hc1, hlen, hc2, hat⟩ := h
  have HAT := Lib.hid hat
  generalize hn : ps.length = n at *
  have HN := Lib.hid hn
  clear hat hn hb0
  obtain ⟨x1, x2⟩ := x
  simp only at HB0 HBOX HA hz
  go_enter Tryz.func140, Tryz.ntmps140
  go_wp2_with fail
  go_loopg [5] n (fun gg s5 wr => ∃ k : Nat, k ≤ n ∧ gg = n - k ∧ s5 = .int .i64 k ∧ Below (w.heap.size + 1) (w.alloc (.cells #[.int .i64 x1, .int .i64 x2] 52)) wr ∧ ∀ (j : Nat) (y : Sp), j < k → ps[j]? = some y → aheadB (x1, x2) y = false)
  case atStart => exact ⟨0, Nat.zero_le _, by omega, rfl, Below.refl _ _, fun j y hj => absurd hj (Nat.not_lt_zero _)⟩
  case round =>
    obtain ⟨k, hkn, hgg, rfl, hbw, hall⟩ := hrel
    have HG := Lib.hid hgg
    have HB := Lib.hid hbw
    have HALL := Lib.hid hall
    have hsz : w.heap.size + 1 ≤ wr.heap.size := by have := hbw.size; omega
    have HBW := Lib.hid (HB0.out.trans (hbw.mono (by omega)))
    obtain ⟨g0, g1, g2⟩ := HBOX.out wr (by rw [hz]; exact hbw)
    clear hgg hbw hall
    by_cases hlt : k < n
    · have hltz : (k : Int) < (n : Int) := by omega
      obtain ⟨b, off, hA, hbl, hcell⟩ := HAT.out (by omega)
      subst hA
      obtain ⟨y, hy⟩ := ex_at (xs := ps) (k := k) (by rw [HN.out]; exact hlt)
      obtain ⟨c1, c2⟩ := (hcell k y hy).keep HBW.out hbl
      have HAY := Lib.hid (HA.out y)
      have HY := Lib.hid hy
      have hblr : b < wr.heap.size := by omega
      obtain ⟨r, hr⟩ : ∃ r, aheadB (x1, x2) y = r := ⟨_, rfl⟩
      rw [hr] at HAY
      have HR := Lib.hid hr
      obtain ⟨y1, y2⟩ := y
      simp only at c1 c2 HAY
      clear hcell hy hr
      go_wp2_with fail
      go_region_held3 (fun w' => w'.cell? ⟨w.heap.size, 0, none⟩ = some (.int .i64 x1) ∧ w'.cell? ⟨w.heap.size, 1, none⟩ = some (.int .i64 x2) ∧ w'.cell? ⟨b, off + k * 2, none⟩ = some (.int .i64 y1) ∧ w'.cell? ⟨b, off + k * 2 + 1, none⟩ = some (.int .i64 y2))
        (first | go_keep | exact ⟨(hb.cell (p := ⟨w.heap.size, 0, none⟩) g2).trans g0, (hb.cell (p := ⟨w.heap.size, 1, none⟩) g2).trans g1, (hb.cell (p := ⟨b, off + k * 2, none⟩) hblr).trans c1, (hb.cell (p := ⟨b, off + k * 2 + 1, none⟩) hblr).trans c2⟩)
        (first | (go_at_call 175; refine (HAY.out _).mono ?_; rintro e w' ⟨rfl, hb⟩))
      have HW : Hid (Below wr.heap.size wr w') := (Below.refl _ wr).drew.trans hb
      have HB5 := Lib.hid (HB.out.trans (HW.out.mono hsz))
      clear hb
      cases r
      · have HALL2 : Hid (∀ (j : Nat) (y : Sp), j < k + 1 → ps[j]? = some y → aheadB (x1, x2) y = false) := fun j z hj hz => by
          by_cases e : j = k
          · subst e
            rw [HY.out] at hz
            cases hz
            exact HR.out
          · exact HALL.out j z (by omega) hz
        go_wp2_with fail
        go_roundg (n - (k + 1))
        case measure => have := HG.out; omega
        case rel => exact ⟨k + 1, by omega, rfl, by go_num, HB5.out, HALL2.out⟩
      · have HFA : Hid (FirstAhead (x1, x2) ps k) := ⟨by have := HN.out; omega, HALL.out, fun z hz => by
          rw [HY.out] at hz
          cases hz
          exact HR.out⟩
        have HS5 : w.heap.size + 1 ≤ w'.heap.size := by have := HB5.out.size; omega
        have HO5 := Lib.hid (own_emptyW w' 52)
        have HBA : Hid (Below (w.heap.size + 1) (w.alloc (.cells #[.int .i64 x1, .int .i64 x2] 52)) (w'.alloc (Obj.cells #[] 52))) := HB5.out.alloc HS5 _
        have HBAW := Lib.hid (HB0.out.trans (HBA.out.mono (by omega)))
        have HN1 : Hid (∀ j u, (spansCells (ps.take k))[j]? = some u → (w'.alloc (Obj.cells #[] 52)).cell? ((⟨b, off, none⟩ : Addr).add j) = some u) := fun j u hj => by
          refine news_ofR HX.out HBAW.out j u ?_
          rw [← spansCells_take, List.getElem?_take] at hj
          split at hj
          · exact hj
          · cases hj
        have HL1 : Hid ((spansCells (ps.take k)).length = k * 2) := by
          show _ = _
          rw [spansCells_length, List.length_take]
          have := HN.out
          omega
        have HE1 := Lib.hid (spansCells_one (ps.take k))
        have HM1 := Lib.hid (show 0 + k ≤ maxLen by unfold maxLen; omega)
        have HY1 := Lib.hid (show (0 + k) * 16 ≤ 140737488355328 by omega)
        have HZ1 := Lib.hid (show w'.heap.size ≤ (w'.alloc (Obj.cells #[] 52)).heap.size by simp)
        have hkc : (k : Int) ≤ (c : Int) := by omega
        have hk00 : (0 : Int) ≤ (k : Int) := by omega
        go_wp2_with (at_builtin; refine wpList_append_own _ rfl _ _ 23 rfl w'.heap.size 52 i0 (.agg #[.int .i64 0, .int .i64 0]) 2 16 Tryz.underlying23 hi hz0 hz1 hz2 rfl (by decide) _ _ _ rfl HO5.out ⟨b, off, none⟩ k c (spansCells (ps.take k)) rfl HL1.out HN1.out HE1.out HM1.out HY1.out HZ1.out ?_)
        intro v6 w6 hown6 hgrow6 _
        have HO6 := Lib.hid hown6
        have HB6 := Lib.hid (HBA.out.trans ((below_grown5 hgrow6 HZ1.out (own_base5 HO5.out)).mono HS5))
        have HS6 : w'.heap.size ≤ w6.heap.size := by have := (below_grown5 hgrow6 HZ1.out (own_base5 HO5.out)).size; simp at this; omega
        clear hown6 hgrow6 HN1 HL1 HE1
        obtain ⟨g60, g61, g62⟩ := HBOX.out w6 (by rw [hz]; exact HB6.out)
        have HO6a := Lib.hid (own_below5 HO6.out ((Below.refl _ w6).alloc (Nat.le_refl _) (Obj.cells #[.int .i64 x1, .int .i64 x2] 52)))
        have HB6a : Hid (Below (w.heap.size + 1) (w.alloc (.cells #[.int .i64 x1, .int .i64 x2] 52)) (w6.alloc (Obj.cells #[.int .i64 x1, .int .i64 x2] 52))) := HB6.out.alloc (by omega) _
        have HN2 := Lib.hid (news_two w6 w6.heap.size rfl 52 x1 x2)
        have HE2 := Lib.hid (show ∀ u ∈ [Value.int .i64 x1, .int .i64 x2], u.oneCell' = true from fun u hu => by simp at hu; rcases hu with rfl | rfl <;> rfl)
        have HM2 := Lib.hid (show k + 1 ≤ maxLen by unfold maxLen; omega)
        have HY2 := Lib.hid (show (k + 1) * 16 ≤ 140737488355328 by omega)
        have HZ2 := Lib.hid (show w'.heap.size ≤ (w6.alloc (Obj.cells #[.int .i64 x1, .int .i64 x2] 52)).heap.size by simp; omega)
        go_wp2_with (at_builtin; refine wpList_append_own _ rfl _ _ 23 rfl w'.heap.size 52 i0 (.agg #[.int .i64 0, .int .i64 0]) 2 16 Tryz.underlying23 hi hz0 hz1 hz2 rfl (by decide) _ _ _ rfl HO6a.out ⟨w6.heap.size, 0, none⟩ 1 1 [.int .i64 x1, .int .i64 x2] rfl rfl HN2.out HE2.out HM2.out HY2.out HZ2.out ?_)
        intro v7 w7 hown7 hgrow7 _
        have HO7 := Lib.hid hown7
        have HB7 := Lib.hid (HB6a.out.trans ((below_grown5 hgrow7 HZ2.out (own_base5 HO6a.out)).mono HS5))
        have HS7 : w'.heap.size ≤ w7.heap.size := by have := (below_grown5 hgrow7 HZ2.out (own_base5 HO6a.out)).size; simp at this; omega
        clear hown7 hgrow7 g60 g61 g62
        have HB7W := Lib.hid (HB0.out.trans (HB7.out.mono (by omega)))
        have HN3 : Hid (∀ j u, (spansCells (ps.drop k))[j]? = some u → w7.cell? ((⟨b, off + k * 2, none⟩ : Addr).add j) = some u) := fun j u hj => by
          refine part_cells HX.out HB7W.out k n j u ?_
          rwa [List.take_of_length_le (by rw [List.length_drop]; have := HN.out; omega)]
        have HL3 : Hid ((spansCells (ps.drop k)).length = (n - k) * 2) := by
          show _ = _
          rw [spansCells_length, List.length_drop, HN.out]
        have HE3 := Lib.hid (spansCells_one (ps.drop k))
        have HM3 := Lib.hid (show k + 1 + (n - k) ≤ maxLen by unfold maxLen; omega)
        have HY3 := Lib.hid (show (k + 1 + (n - k)) * 16 ≤ 140737488355328 by omega)
        have HZ3 := Lib.hid HS7
        have hck : ¬ (c = k) := by omega
        have hkn' : (k : Int) ≤ (n : Int) := by omega
        go_wp2_with (at_builtin; refine wpList_append_own _ rfl _ _ 23 rfl w'.heap.size 52 i0 (.agg #[.int .i64 0, .int .i64 0]) 2 16 Tryz.underlying23 hi hz0 hz1 hz2 rfl (by decide) _ _ _ rfl HO7.out ⟨b, off + k * 2, none⟩ (n - k) (c - k) (spansCells (ps.drop k)) rfl HL3.out HN3.out HE3.out HM3.out HY3.out HZ3.out ?_)
        intro v8 w8 hown8 hgrow8 _
        have HO8 := Lib.hid hown8
        have HB8 := Lib.hid (HB7W.out.trans ((below_grown5 hgrow8 HZ3.out (own_base5 HO7.out)).mono (by omega)))
        clear hown8 hgrow8
        go_wp2
        go_ret
        refine ⟨_, rfl, ?_, HB8.out⟩
        have h8 := HO8.out
        rw [HPUT.out k HFA.out]
        have e1 : (ps.take k ++ [(x1, x2)] ++ ps.drop k).length = n + 1 := by have := HN.out; simp; omega
        have e2 : k + 1 + (n - k) = n + 1 := by omega
        rw [e1, spansCells_append, spansCells_snoc, List.append_assoc]
        try rw [e2] at h8
        exact own_mono5 (base := w'.heap.size) h8 (by omega)
    · have hke : k = n := by omega
      have hltz : ¬ (k : Int) < (n : Int) := by omega
      have HFA : Hid (FirstAhead (x1, x2) ps k) := ⟨by have := HN.out; omega, HALL.out, fun z hz => by
        rw [List.getElem?_eq_none (by have := HN.out; omega)] at hz
        cases hz⟩
      subst hke
      clear hlt hltz
      have hltz : ((k : Int) < (k : Int)) = False := by simp
      cases A with
      | none =>
        obtain ⟨hk0, hnil⟩ := spans_emptyR HX.out
        subst hnil hk0
        go_wp2_with fail
        go_quiet (fail)
        have HB5 := Lib.hid (below_drewN HB.out nq)
        generalize wr.drewN nq = wq at *
        have HS5 : w.heap.size + 1 ≤ wq.heap.size := by have := HB5.out.size; omega
        have HO5 := Lib.hid (own_emptyW wq 52)
        have HBA : Hid (Below (w.heap.size + 1) (w.alloc (.cells #[.int .i64 x1, .int .i64 x2] 52)) (wq.alloc (Obj.cells #[] 52))) := HB5.out.alloc HS5 _
        obtain ⟨g60, g61, g62⟩ := HBOX.out _ (by rw [hz]; exact HBA.out)
        have HO6a := Lib.hid (own_below5 HO5.out ((Below.refl _ (wq.alloc (Obj.cells #[] 52))).alloc (Nat.le_refl _) (Obj.cells #[.int .i64 x1, .int .i64 x2] 52)))
        have HB6a : Hid (Below (w.heap.size + 1) (w.alloc (.cells #[.int .i64 x1, .int .i64 x2] 52)) ((wq.alloc (Obj.cells #[] 52)).alloc (Obj.cells #[.int .i64 x1, .int .i64 x2] 52))) := HBA.out.alloc (by simp; omega) _
        have HN2 := Lib.hid (news_two (wq.alloc (Obj.cells #[] 52)) (wq.heap.size + 1) (by simp) 52 x1 x2)
        have HE2 := Lib.hid (show ∀ u ∈ [Value.int .i64 x1, .int .i64 x2], u.oneCell' = true from fun u hu => by simp at hu; rcases hu with rfl | rfl <;> rfl)
        have HM2 := Lib.hid (show 0 + 1 ≤ maxLen by unfold maxLen; omega)
        have HY2 := Lib.hid (show (0 + 1) * 16 ≤ 140737488355328 by omega)
        have HZ2 := Lib.hid (show wq.heap.size ≤ ((wq.alloc (Obj.cells #[] 52)).alloc (Obj.cells #[.int .i64 x1, .int .i64 x2] 52)).heap.size by simp; omega)
        go_wp2_with (first
          | (at_builtin; refine wpList_append_none5R rfl _ _ 23 rfl wq.heap.size 52 i0 2 Tryz.underlying23 hi _ _ _ rfl HO5.out c rfl ?_)
          | (at_builtin; refine wpList_append_own _ rfl _ _ 23 rfl wq.heap.size 52 i0 (.agg #[.int .i64 0, .int .i64 0]) 2 16 Tryz.underlying23 hi hz0 hz1 hz2 rfl (by decide) _ _ _ rfl HO6a.out ⟨wq.heap.size + 1, 0, none⟩ 1 1 [.int .i64 x1, .int .i64 x2] rfl rfl HN2.out HE2.out HM2.out HY2.out HZ2.out ?_))
        all_goals
          intro v7 w7 hown7 hgrow7 _
          have HO7 := Lib.hid hown7
          have HB7 := Lib.hid (HB6a.out.trans ((below_grown5 hgrow7 HZ2.out (own_base5 HO6a.out)).mono HS5))
          clear hown7 hgrow7 g60 g61 g62
          by_cases hck : c = 0
          all_goals
            go_wp2_with (at_builtin; refine wpList_append_none5R rfl _ _ 23 rfl wq.heap.size 52 i0 2 Tryz.underlying23 hi _ _ _ rfl HO7.out _ rfl ?_)
            go_ret
            exact ⟨_, rfl, own_mono5 (base := wq.heap.size) HO7.out (by omega), HB0.out.trans (HB7.out.mono (by omega))⟩
      | some a =>
        go_wp2_with fail
        go_quiet (fail)
        have HB5 := Lib.hid (below_drewN HB.out nq)
        generalize wr.drewN nq = wq at *
        have HS5 : w.heap.size + 1 ≤ wq.heap.size := by have := HB5.out.size; omega
        have HO5 := Lib.hid (own_emptyW wq 52)
        have HBA : Hid (Below (w.heap.size + 1) (w.alloc (.cells #[.int .i64 x1, .int .i64 x2] 52)) (wq.alloc (Obj.cells #[] 52))) := HB5.out.alloc HS5 _
        have HBAW := Lib.hid (HB0.out.trans (HBA.out.mono (by omega)))
        have HN1 : Hid (∀ j u, (spansCells (ps.take k))[j]? = some u → (wq.alloc (Obj.cells #[] 52)).cell? ((a : Addr).add j) = some u) := fun j u hj => by
          refine news_ofR HX.out HBAW.out j u ?_
          rw [← spansCells_take, List.getElem?_take] at hj
          split at hj
          · exact hj
          · cases hj
        have HL1 : Hid ((spansCells (ps.take k)).length = k * 2) := by
          show _ = _
          rw [spansCells_length, List.length_take]
          have := HN.out
          omega
        have HE1 := Lib.hid (spansCells_one (ps.take k))
        have HM1 := Lib.hid (show 0 + k ≤ maxLen by unfold maxLen; omega)
        have HY1 := Lib.hid (show (0 + k) * 16 ≤ 140737488355328 by omega)
        have HZ1 := Lib.hid (show wq.heap.size ≤ (wq.alloc (Obj.cells #[] 52)).heap.size by simp)
        have hkc : (k : Int) ≤ (c : Int) := by omega
        have hk00 : (0 : Int) ≤ (k : Int) := by omega
        go_wp2_with (at_builtin; refine wpList_append_own _ rfl _ _ 23 rfl wq.heap.size 52 i0 (.agg #[.int .i64 0, .int .i64 0]) 2 16 Tryz.underlying23 hi hz0 hz1 hz2 rfl (by decide) _ _ _ rfl HO5.out a k c (spansCells (ps.take k)) rfl HL1.out HN1.out HE1.out HM1.out HY1.out HZ1.out ?_)
        intro v6 w6 hown6 hgrow6 _
        have HO6 := Lib.hid hown6
        have HB6 := Lib.hid (HBA.out.trans ((below_grown5 hgrow6 HZ1.out (own_base5 HO5.out)).mono HS5))
        have HS6 : wq.heap.size ≤ w6.heap.size := by have := (below_grown5 hgrow6 HZ1.out (own_base5 HO5.out)).size; simp at this; omega
        clear hown6 hgrow6 HN1 HL1 HE1
        obtain ⟨g60, g61, g62⟩ := HBOX.out w6 (by rw [hz]; exact HB6.out)
        have HO6a := Lib.hid (own_below5 HO6.out ((Below.refl _ w6).alloc (Nat.le_refl _) (Obj.cells #[.int .i64 x1, .int .i64 x2] 52)))
        have HB6a : Hid (Below (w.heap.size + 1) (w.alloc (.cells #[.int .i64 x1, .int .i64 x2] 52)) (w6.alloc (Obj.cells #[.int .i64 x1, .int .i64 x2] 52))) := HB6.out.alloc (by omega) _
        have HN2 := Lib.hid (news_two w6 w6.heap.size rfl 52 x1 x2)
        have HE2 := Lib.hid (show ∀ u ∈ [Value.int .i64 x1, .int .i64 x2], u.oneCell' = true from fun u hu => by simp at hu; rcases hu with rfl | rfl <;> rfl)
        have HM2 := Lib.hid (show k + 1 ≤ maxLen by unfold maxLen; omega)
        have HY2 := Lib.hid (show (k + 1) * 16 ≤ 140737488355328 by omega)
        have HZ2 := Lib.hid (show wq.heap.size ≤ (w6.alloc (Obj.cells #[.int .i64 x1, .int .i64 x2] 52)).heap.size by simp; omega)
        go_wp2_with (at_builtin; refine wpList_append_own _ rfl _ _ 23 rfl wq.heap.size 52 i0 (.agg #[.int .i64 0, .int .i64 0]) 2 16 Tryz.underlying23 hi hz0 hz1 hz2 rfl (by decide) _ _ _ rfl HO6a.out ⟨w6.heap.size, 0, none⟩ 1 1 [.int .i64 x1, .int .i64 x2] rfl rfl HN2.out HE2.out HM2.out HY2.out HZ2.out ?_)
        intro v7 w7 hown7 hgrow7 _
        have HO7 := Lib.hid hown7
        have HB7 := Lib.hid (HB6a.out.trans ((below_grown5 hgrow7 HZ2.out (own_base5 HO6a.out)).mono HS5))
        have HS7 : wq.heap.size ≤ w7.heap.size := by have := (below_grown5 hgrow7 HZ2.out (own_base5 HO6a.out)).size; simp at this; omega
        clear hown7 hgrow7 g60 g61 g62
        have HB7W := Lib.hid (HB0.out.trans (HB7.out.mono (by omega)))
        have HDN : Hid (spansCells (ps.drop k) = []) := by
          show _ = _
          rw [List.drop_eq_nil_of_le (by have := HN.out; omega)]
          rfl
        have HSN := Lib.hid (spansCells_snoc (ps.take k) (x1, x2))
        have HFINAL : Hid (∀ (v : Value) (w'' : World), w''.ownsRow wq.heap.size 52 2 v (k + 1) (spansCells (ps.take k) ++ [Value.int .i64 x1, .int .i64 x2]) → w''.ownsRow w.heap.size 52 2 v (putT (x1, x2) ps).length (spansCells (putT (x1, x2) ps))) := fun v w'' hh => by
          rw [HPUT.out k HFA.out]
          have e1 : (ps.take k ++ [(x1, x2)] ++ ps.drop k).length = k + 1 := by have := HN.out; simp; omega
          rw [e1, spansCells_append, HDN.out, List.append_nil, HSN.out]
          exact own_mono5 (base := wq.heap.size) hh (by omega)
        have HM3 := Lib.hid (show k + 1 + 0 ≤ maxLen by unfold maxLen; omega)
        have HY3 := Lib.hid (show (k + 1 + 0) * 16 ≤ 140737488355328 by omega)
        have HZ3 := Lib.hid HS7
        by_cases hck : c = k
        · subst hck
          go_wp2_with (at_builtin; refine wpList_append_own _ rfl _ _ 23 rfl wq.heap.size 52 i0 (.agg #[.int .i64 0, .int .i64 0]) 2 16 Tryz.underlying23 hi hz0 hz1 hz2 rfl (by decide) _ _ _ rfl HO7.out _ 0 _ [] rfl rfl (fun j u hj => by simp at hj) (fun u hu => by simp at hu) HM3.out HY3.out HZ3.out ?_)
          intro v8 w8 hown8 hgrow8 _
          have HO8 := Lib.hid hown8
          have HB8 := Lib.hid (HB7W.out.trans ((below_grown5 hgrow8 HZ3.out (own_base5 HO7.out)).mono (by omega)))
          clear hown8 hgrow8
          go_wp2
          go_ret
          exact ⟨_, rfl, HFINAL.out _ _ HO8.out, HB8.out⟩
        · skip
          go_wp2_with (at_builtin; refine wpList_append_own _ rfl _ _ 23 rfl wq.heap.size 52 i0 (.agg #[.int .i64 0, .int .i64 0]) 2 16 Tryz.underlying23 hi hz0 hz1 hz2 rfl (by decide) _ _ _ rfl HO7.out _ 0 _ [] rfl rfl (fun j u hj => by simp at hj) (fun u hu => by simp at hu) HM3.out HY3.out HZ3.out ?_)
          intro v8 w8 hown8 hgrow8 _
          have HO8 := Lib.hid hown8
          have HB8 := Lib.hid (HB7W.out.trans ((below_grown5 hgrow8 HZ3.out (own_base5 HO7.out)).mono (by omega)))
          clear hown8 hgrow8
          go_wp2
          go_ret
          exact ⟨_, rfl, HFINAL.out _ _ HO8.out, HB8.out⟩
set_option maxRecDepth 100000 in
set_option maxHeartbeats 2000000 in
theorem refSort_any (v : Value) (ps : List Sp) (w : World) (h : SpansAt w v ps) (hl : ps.length ≤ 1000) :
    Calls Tryz.prog 86 #[v] w (RetO w.heap.size 52 (sortT ps) w) := by
  obtain ⟨A, c, rfl, hc1, hlen, hc2, hat⟩ := h
  have HAT := Lib.hid hat
  have HP := Lib.hid (fun v qs x w h hl => refPutW_any v qs x w h hl)
  generalize hn : ps.length = n at *
  have HN := Lib.hid hn
  clear hat hn
  go_enter Tryz.func86, Tryz.ntmps86
  go_wp2_with fail
  go_loopg [3, 4] n (fun gg s3 s4 wr => ∃ i : Nat, i ≤ n ∧ gg = n - i ∧ s4 = .int .i64 i ∧ Below w.heap.size w wr ∧ wr.ownsRow w.heap.size 52 2 s3 (sortT (ps.take i)).length (spansCells (sortT (ps.take i))))
  case atStart => exact ⟨0, Nat.zero_le _, by omega, rfl, (Below.refl _ _).alloc (Nat.le_refl _) _, own_emptyW w 52⟩
  case round =>
    obtain ⟨i, hin, hgg, rfl, hbw, hsp⟩ := hrel
    have HG := Lib.hid hgg
    have HB := Lib.hid hbw
    have HO0 := Lib.hid hsp
    have HS := Lib.hid (spans_of_own hsp (by rw [sortT_length, List.length_take]; omega))
    have hsz := hbw.size
    clear hgg hbw hsp
    by_cases hlt : i < n
    · have hltz : (i : Int) < (n : Int) := by omega
      obtain ⟨b, off, hA, hbl, hcell⟩ := HAT.out (by omega)
      subst hA
      obtain ⟨y, hy⟩ := ex_at (xs := ps) (k := i) (by rw [HN.out]; exact hlt)
      obtain ⟨c1, c2⟩ := (hcell i y hy).keep HB.out hbl
      have HC := Lib.hid (HP.out _ _ y _ HS.out (by rw [sortT_length, List.length_take]; omega))
      have HE : Hid (putT y (sortT (ps.take i)) = sortT (ps.take (i + 1))) := by
        show _ = _
        rw [take_succ_of hy, sortT_snoc]
      have HL := Lib.hid (show (putT y (sortT (ps.take i))).length ≤ 100000 by rw [HE.out, sortT_length, List.length_take]; omega)
      obtain ⟨y1, y2⟩ := y
      simp only at c1 c2 HC
      clear hcell hy
      go_wp2_with (go_at_call 140; refine HC.out.mono ?_; rintro e w' ⟨v', rfl, hown, hb⟩)
      have HS2 := Lib.hid (own_mono5 hown hsz)
      have HB2 := Lib.hid (HB.out.trans (hb.mono hsz))
      clear hown hb
      rw [HE.out] at HS2
      go_wp2
      go_roundg (n - (i + 1))
      case measure => have := HG.out; omega
      case rel => exact ⟨i + 1, by omega, rfl, by go_num, HB2.out, HS2.out⟩
    · have hin' : i = n := by omega
      subst hin'
      have hltz : ¬ (i : Int) < (i : Int) := by omega
      rw [List.take_of_length_le (by rw [HN.out]; exact Nat.le_refl _)] at HO0
      go_wp2
      go_ret
      exact ⟨_, rfl, HO0.out, HB.out⟩
end Go.Proofs.YtpfpojehcjmfnaaGreat

/-
  First fit by falling sizes, of the document.
  Conditions: the slices read as places, as wants; the numbers are of their kinds; the wants may be placed; both are short.
-/
set_option linter.unusedVariables false
set_option linter.unusedSimpArgs false
namespace Go.Proofs.YtpfpojehcjmfnaaGreat
open Go.RowKit

theorem FitSt.putG {f : Int} {m base F : Nat} {w6 w' W : World} {so v v' : Value} {l l' : List Pl} {over : List Sp} (h : FitSt f m base F w6 w' so v l over) (hb : Below w'.heap.size w' W) (hp : PlsIn (fun b => (base ≤ b ∧ b ≠ F ∧ so.ownBlock ≠ some b) ∨ w'.heap.size ≤ b) W v' l') (hF : F < w6.heap.size) (hbase : base ≤ w'.heap.size := by omega) :
    FitSt f m base F w6 (W.setRow F #[.int .i64 f, .int .u32 m, v']) so v' l' over := by
  have hk := h.keep hb
  have hlt := heap_lt h.box
  refine ⟨hk.apart.trans (F' := fun b => b = F) ⟨rfl, rfl, rfl, by simp, fun k _ hne => setRow_other _ _ _ _ hne⟩ (fun x _ e => e), setRow_heap _ _ _ _ _ _ hk.box, ?_, own_keep hk.own fun k hv => setRow_other _ _ _ _ ?_⟩
  · refine (PlsIn.setRow hp (N := F) (.inl fun e => ?_)).mono fun b _ hF' => ?_
    · rcases e with e | e
      · exact e.2.1 rfl
      · omega
    · rcases hF' with hF' | hF'
      · exact hF'
      · refine ⟨by omega, by omega, fun e => ?_⟩
        have := own_lt h.own e
        omega
  · have := own_base5 hk.own k hv
    omega
theorem cell_set_neR {W : World} {g F : Nat} (h : g ≠ F) (o : Nat) (cs : Array Value) : (W.setRow F cs).cell? ⟨g, o, none⟩ = W.cell? ⟨g, o, none⟩ := cell_same (setRow_other _ _ _ _ h) o
/-- What the document's Fit answers. -/
def RetFitR (f : Int) (m : Nat) (l : List Pl) (ws : List Sp) (w : World) (e : Ending) (w' : World) : Prop :=
  ∃ v vo, e = .returned (.tuple #[planA f m v, vo]) ∧ PlsAt w' v (fitT f m l (sortT ws)).1 ∧ SpansAt w' vo (fitT f m l (sortT ws)).2 ∧ Below w.heap.size w w'

set_option maxRecDepth 100000 in
set_option maxHeartbeats 8000000 in
theorem refFit_any (f : Int) (m : Nat) (v : Value) (l : List Pl) (vw : Value) (ws : List Sp) (w : World) (h : PlsAt w v l) (hL : LightL l) (hw : SpansAt w vw ws) (hg : Goes f m l ws) (hl : l.length + ws.length ≤ 300) :
    Calls Tryz.prog 44 #[planA f m v, vw] w (RetFitR f m l ws w) := by
  have mixed : Tryz.prog.follows .mixedOrders = true := by kernel_rfl
  obtain ⟨i0, hi0, hz0, hz1, hz2⟩ := info_parts Tryz.infoSpan
  have HSO := Lib.hid (fun w h => refSort_any vw ws w h (by omega))
  have HOK := Lib.hid hL.ok
  have HH := Lib.hid h
  have HW := Lib.hid hw
  have HLL := Lib.hid hl
  have HINV := Lib.hid (fun k hk => hg.inv (k := k) hk)
  have HSL := Lib.hid (sortT_length ws)
  have HWO := Lib.hid ((WOk.of_chk hg.chk).2.perm (sortT_perm ws))
  obtain ⟨w1, F, hw1, hF, hFl, hb1, hbox⟩ := box_any w #[.int .i64 f, .int .u32 m, v] 26
  obtain ⟨w2, R, hw2, hR, hRl, hb2, hrox⟩ := box_any w1 #[.int .i64 0, .int .u32 0, .slice none 0 0] 26
  have HB2 := Lib.hid (hb1.trans (hb2.mono hb1.size))
  obtain ⟨w3, E, hw3, hE, hEl, hb3, hebx⟩ := box_any w2 #[] 52
  have HB3 := Lib.hid (HB2.out.trans (hb3.mono HB2.out.size))
  have HFB3 := Lib.hid (keep_block (keep_block hbox hb2) hb3)
  have HRB2 := Lib.hid hrox
  have HRB3 := Lib.hid (keep_block hrox hb3)
  have HOE : Hid (w3.ownsRow w2.heap.size 52 2 (.slice (some ⟨E, 0, none⟩) 0 0) 0 []) := Lib.hid (by
    have := own_emptyW w2 52
    rw [hw3, hE] at this
    rw [hE]
    exact this)
  have HLT := Lib.hid (show w.heap.size ≤ F ∧ F < R ∧ R < w2.heap.size ∧ w2.heap.size ≤ E by have := hb1.size; omega)
  obtain ⟨f0, f1, f2⟩ := three_heads HFB3.out
  clear h hL hw hl hg hb1 hb2 hb3 hbox hrox hebx
  unfold planA
  go_enter Tryz.func44, Tryz.ntmps44
  go_wp2_with fail
  refine (HSO.out _ (HW.out.keep HB3.out)).mono ?_
  rintro e w6 ⟨v6, rfl, hown6, hb6⟩
  obtain ⟨A6, c6, hv6⟩ := own_form hown6
  obtain ⟨srt, hsrt⟩ : ∃ srt, sortT ws = srt := ⟨_, rfl⟩
  rw [hsrt] at hown6 hv6 HINV HSL HWO
  have HSR := Lib.hid hsrt
  obtain ⟨n, hn⟩ : ∃ n, srt.length = n := ⟨_, rfl⟩
  rw [hn] at hv6
  have HN := Lib.hid hn
  have HAT : Hid (0 < n → ∃ g, A6 = some ⟨g, 0, none⟩ ∧ w3.heap.size ≤ g ∧ g < w6.heap.size ∧ n ≤ c6 ∧ ∀ j p, srt[j]? = some p → PairAt w6 g (j * 2) p) := Lib.hid fun h0 => by
    obtain ⟨g, cap, e1, e2, e3, e4, e5, e6, _⟩ := own_lies hown6 (by omega)
    rw [hv6] at e1
    injection e1 with e7 e8 e9
    subst e9
    exact ⟨g, e7, e2, e3, by omega, e6⟩
  subst hv6
  have HB6 := Lib.hid (HB3.out.trans (hb6.mono HB3.out.size))
  have HF6 := Lib.hid (show F < w2.heap.size by have := HLT.out; omega)
  have HRB6 := Lib.hid (keep_block HRB3.out hb6)
  have HST0 : Hid (FitSt f m 0 F w2 w6 (.slice (some ⟨E, 0, none⟩) 0 0) v l []) := Lib.hid ⟨(Apart.of_below (F := fun b => b = F) (show Below w2.heap.size w2 w3 by rw [← hw3]; exact (Below.refl _ _).alloc (Nat.le_refl _) _)).trans (F' := fun b => b = F) ((Apart.of_below (F := fun b => b = F) hb6)) (fun x _ e => e), keep_block HFB3.out hb6, ((HH.out.mono (G := fun b => b < w.heap.size) fun b hb _ => hb).keep HB6.out).mono fun b _ hb => ⟨Nat.zero_le _, by have := HLT.out; omega, fun e => by
    have e1 : E = b := by simpa [Value.ownBlock] using e
    have := HLT.out
    have := HB2.out.size
    omega⟩, own_below5 HOE.out hb6⟩
  have hnw : n = ws.length := by have := HSL.out; have := HN.out; omega
  have HNW := Lib.hid hnw
  clear hnw
  have HEG : Hid (∀ g, A6 = some ⟨g, 0, none⟩ → w3.heap.size ≤ g → (Value.slice (some ⟨E, 0, none⟩) 0 0).ownBlock ≠ some g) := Lib.hid (fun g _ hg e => by
    have e1 : E = g := by simpa [Value.ownBlock] using e
    omega)
  have HG3 := Lib.hid (show w2.heap.size ≤ w3.heap.size by omega)
  have hnl : n ≤ 300 := by have := HSL.out; have := HLL.out; have := HNW.out; omega
  clear hown6 hb6 hn hsrt hw1 hF hw2 hR hw3 hE f0 f1 f2
  go_wp2_with fail
  go_loopg [6, 8, 9] n (fun gg s6 s8 _ wr => ∃ (k : Nat) (vp : Value), k ≤ n ∧ gg = n - k ∧ s8 = .int .i64 k ∧ FitSt f m 0 F w2 wr s6 vp (fitT f m l (srt.take k)).1 (fitT f m l (srt.take k)).2 ∧ Hid (∀ g, A6 = some ⟨g, 0, none⟩ → w3.heap.size ≤ g → g < w6.heap.size → s6.ownBlock ≠ some g ∧ wr.heap[g]? = w6.heap[g]?))
  case atStart => exact ⟨0, _, Nat.zero_le _, by omega, rfl, HST0.out, Lib.hid (fun g h1 h2 _ => ⟨HEG.out g h1 h2, rfl⟩)⟩
  case round =>
    obtain ⟨k, vp, hk, hg, rfl, hst, HGB⟩ := hrel
    have HG := Lib.hid hg
    have hinv := HINV.out k (by have := HNW.out; omega)
    have hlen := hinv.len
    rw [List.length_take, Nat.min_eq_left (by have := HN.out; omega)] at hlen
    obtain ⟨wo, rfl⟩ : ∃ wo : World, wo = wr := ⟨_, rfl⟩
    by_cases hlt : k < n
    · have hltz : (k : Int) < (n : Int) := by omega
      have hk0 : (0 : Int) ≤ (k : Int) := by omega
      obtain ⟨y, hy⟩ := ex_at (xs := srt) (k := k) (by rw [HN.out]; exact hlt)
      have HSTEP := Lib.hid (fitT_take (f := f) (m := m) (l := l) hy)
      have hyok := HWO.out.all y (List.mem_of_getElem? hy)
      obtain ⟨g, hA, hg5, hg6, hnc, hcell⟩ := HAT.out (by omega)
      have hgb := HGB.out g hA hg5 hg6
      subst hA
      obtain ⟨c1, c2⟩ := hcell k y hy
      have hglt : g < wo.heap.size := by
        have h1 : w6.heap[g]? = some w6.heap[g] := Array.getElem?_eq_getElem hg6
        exact heap_lt (hgb.2.trans h1)
      have c1 := (cell_same hgb.2 (k * 2)).trans c1
      have c2 := (cell_same hgb.2 (k * 2 + 1)).trans c2
      have HST := Lib.hid hst
      have HSG : Hid (∀ W, Below wo.heap.size wo W → W.cell? ⟨g, k * 2, none⟩ = some (.int .i64 y.1) ∧ W.cell? ⟨g, k * 2 + 1, none⟩ = some (.int .i64 y.2)) := Lib.hid (fun W hk => ⟨(hk.cell (p := ⟨g, k * 2, none⟩) hglt).trans c1, (hk.cell (p := ⟨g, k * 2 + 1, none⟩) hglt).trans c2⟩)
      have HSF : Hid (∀ W, Below wo.heap.size wo W → W.cell? ⟨F, 0, none⟩ = some (.int .i64 f) ∧ W.cell? ⟨F, 1, none⟩ = some (.int .u32 m) ∧ W.cell? ⟨F, 2, none⟩ = some vp) := Lib.hid (fun W hk => three_heads (keep_block HST.out.box hk))
      have HSC : Hid (∀ W, Below wo.heap.size wo W → W.cell? ⟨F, 0, none⟩ = some (.int .i64 f) ∧ W.cell? ⟨F, 1, none⟩ = some (.int .u32 m) ∧ W.cell? ⟨F, 2, none⟩ = some vp ∧ W.cell? ⟨g, k * 2 + 1, none⟩ = some (.int .i64 y.2)) := Lib.hid (fun W hk => by
        obtain ⟨a0, a1, a2⟩ := HSF.out W hk
        exact ⟨a0, a1, a2, (HSG.out W hk).2⟩)
      have hgF : g ≠ F := by have := HF6.out; have := HG3.out; omega
      have HGF := Lib.hid hgF
      have HGN := Lib.hid (show w3.heap.size ≤ g ∧ g < w6.heap.size from ⟨hg5, hg6⟩)
      have HGL := Lib.hid hglt
      have hkd := (Below.refl wo.heap.size wo).drew
      have hstd := hst.keep hkd
      generalize fitT f m l (srt.take k) = st at *
      obtain ⟨L, O⟩ := st
      simp only at hinv hlen hst hstd HST HSTEP
      have hLL : LightL L := ⟨by have := HLL.out; have := HNW.out; omega, hinv.ok HOK.out⟩
      have HFR := Lib.hid (refFirst_any f m vp L y.2 wo.drew hstd.pls.any hLL hinv.right hyok.2.1)
      have HR := Lib.hid hinv.right
      have HLI := Lib.hid hLL
      have HOL := Lib.hid (show O.length ≤ 300 by have := HLL.out; have := HNW.out; omega)
      have HLE := Lib.hid (show L.length ≤ 999 by have := HLL.out; have := HNW.out; omega)
      obtain ⟨o, ho⟩ : ∃ o, firstR f m L y.2 = o := ⟨_, rfl⟩
      rw [ho] at HFR
      have HO := Lib.hid ho
      unfold planA at HFR
      clear hg hst hstd hinv hlen hy hyok hcell hLL ho hgb c1 c2 hg5 hg6 hglt hgF
      cases o with
      | none =>
        have HS1 : Hid (fitT f m l (srt.take (k + 1)) = (L, O ++ [y])) := Lib.hid (HSTEP.out.trans (fitS_none (st := (L, O)) (w := y) HO.out))
        unfold coreR at HFR
        simp only at HFR
        go_wp2_with fail
        refine wp_region_held_drew (S := fun w' => w'.cell? ⟨F, 0, none⟩ = some (.int .i64 f) ∧ w'.cell? ⟨F, 1, none⟩ = some (.int .u32 m) ∧ w'.cell? ⟨F, 2, none⟩ = some (vp) ∧ w'.cell? ⟨g, k * 2 + 1, none⟩ = some (.int .i64 y.2)) (by kernel_rfl) ?_ (fun hHeld => ?_)
        · exact HSC.out _ hkd
        refine wpAnyH_take (i := 0) (oi := ⟨some 19, _, _, _, _, _⟩) (v := ?_) rfl (by kernel_rfl) (by kernel_rfl) (by kernel_rfl) (fun _ _ _ h => h) (Or.inl ⟨by kernel_rfl, ?_⟩) (by assumption) ?_
        rotate_left
        · (intro w hSw; (try dsimp only at hSw); go_simp; try with_reducible rfl)
        (try simp only [Act.put, List.setIfInBounds_toArray, List.set_cons_zero, List.set_cons_succ])
        refine wpAnyH_take (i := 1) (oi := ⟨some 20, _, _, _, _, _⟩) (v := ?_) rfl (by kernel_rfl) (by kernel_rfl) (by kernel_rfl) (fun _ _ _ h => h) (Or.inl ⟨by kernel_rfl, ?_⟩) (by assumption) ?_
        rotate_left
        · (intro w hSw; (try dsimp only at hSw); go_simp; try with_reducible rfl)
        (try simp only [Act.put, List.setIfInBounds_toArray, List.set_cons_zero, List.set_cons_succ])
        refine wpAnyH_take (i := 2) (oi := ⟨some 21, _, _, _, _, _⟩) (v := ?_) rfl (by kernel_rfl) (by kernel_rfl) (by kernel_rfl) (fun _ _ _ h => h) (Or.inl ⟨by kernel_rfl, ?_⟩) (by assumption) ?_
        rotate_left
        · (intro w hSw; (try dsimp only at hSw); go_simp; try with_reducible rfl)
        (try simp only [Act.put, List.setIfInBounds_toArray, List.set_cons_zero, List.set_cons_succ])
        refine wpAnyH_take (i := 3) (oi := ⟨some 22, _, _, _, _, _⟩) (v := ?_) rfl (by kernel_rfl) (by kernel_rfl) (by kernel_rfl) (fun _ _ _ h => h) (Or.inl ⟨by kernel_rfl, ?_⟩) (by assumption) ?_
        rotate_left
        · (intro w hSw; (try dsimp only at hSw); go_simp; try with_reducible rfl)
        (try simp only [Act.put, List.setIfInBounds_toArray, List.set_cons_zero, List.set_cons_succ])
        refine wpAnyH_take (i := 4) (oi := ⟨some 23, _, _, _, _, _⟩) (v := ?_) rfl (by kernel_rfl) (by kernel_rfl) (by kernel_rfl) (fun _ _ _ h => h) (Or.inl ⟨by kernel_rfl, ?_⟩) (by assumption) ?_
        rotate_left
        · (intro w hSw; (try dsimp only at hSw); go_simp; try with_reducible rfl)
        (try simp only [Act.put, List.setIfInBounds_toArray, List.set_cons_zero, List.set_cons_succ])
        refine wpAnyH_take (i := 5) (oi := ⟨some 24, _, _, _, _, _⟩) (v := ?_) rfl (by kernel_rfl) (by kernel_rfl) (by kernel_rfl) (fun _ _ _ h => h) (Or.inl ⟨by kernel_rfl, ?_⟩) (by assumption) ?_
        rotate_left
        · (intro w hSw; (try dsimp only at hSw); go_simp; try with_reducible rfl)
        (try simp only [Act.put, List.setIfInBounds_toArray, List.set_cons_zero, List.set_cons_succ])
        refine wpAnyH_ready (rs := [6]) (by kernel_rfl) (by simp) ?_
        refine AllReadyH.cons (o := ⟨some 25, _, _, _, _, _⟩) rfl (fun K hK => ?_) AllReadyH.nil
        rw [if_pos (by kernel_rfl)]
        go_simp
        go_at_call 87; refine HFR.out.mono ?_; rintro e w8 ⟨rfl, hb8⟩
        have hkq := hkd.trans (hb8.mono hkd.size)
        refine hK.out _ _ ?_ (fun hHeld => ?_)
        · exact HSC.out _ hkq
        clear hK K
        (try simp only [Act.put, List.setIfInBounds_toArray, List.set_cons_zero, List.set_cons_succ])
        refine wpAnyH_take (i := 7) (oi := ⟨some 9, _, _, _, _, _⟩) (v := ?_) rfl (by kernel_rfl) (by kernel_rfl) (by kernel_rfl) (fun _ _ _ h => h) (Or.inl ⟨by kernel_rfl, ?_⟩) (by assumption) ?_
        rotate_left
        · (intro w hSw; (try dsimp only at hSw); go_simp; try with_reducible rfl)
        (try simp only [Act.put, List.setIfInBounds_toArray, List.set_cons_zero, List.set_cons_succ])
        refine wpAnyH_done (by kernel_rfl) ?_ _
        have HKW := Lib.hid (hkd.trans (hb8.mono hkd.size))
        clear hHeld hb8 hkq hkd
        have HST8 := Lib.hid (HST.out.keep HKW.out)
        obtain ⟨c1, c2⟩ := HSG.out _ HKW.out
        have hsz : w2.heap.size ≤ w8.heap.size := HST8.out.apart.size
        have hle := HOL.out
        have hgl8 : g < w8.heap.size := Nat.lt_of_lt_of_le HGL.out HKW.out.size
        clear HSTEP
        go_wp2_with (at_builtin; refine wpList_append_own_at _ rfl _ _ 23 rfl w2.heap.size 52 i0 (.agg #[.int .i64 0, .int .i64 0]) 2 16 Tryz.underlying23 hi0 hz0 hz1 hz2 rfl (by decide) _ _ _ rfl (HST8.out.own.alloc _) ⟨w8.heap.size, 0, none⟩ 1 1 [.int .i64 y.1, .int .i64 y.2] rfl rfl ?c1 ?c2 ?c3 ?c4 ?c5 ?_)
        case c1 => exact news_two _ _ rfl _ _ _
        case c2 => intro u hu; simp at hu; rcases hu with rfl | rfl <;> rfl
        case c3 => unfold maxLen; omega
        case c4 => omega
        case c5 => simp; omega
        intro v9 w9 hown9 hgrow _ hat
        have hba := (Below.refl w8.heap.size w8).alloc (Nat.le_refl _) (.cells #[.int .i64 y.1, .int .i64 y.2] 52)
        have HST9 := Lib.hid ((HST8.out.keep hba).more (over' := O ++ [y]) (by rw [List.length_append, spansCells_snoc]; exact hown9) hgrow (hat.imp id fun e => e.trans (by simp)) HF6.out)
        have HGB9 : Hid (∀ g', (some ⟨g, 0, none⟩ : Option Addr) = some ⟨g', 0, none⟩ → w3.heap.size ≤ g' → g' < w6.heap.size → v9.ownBlock ≠ some g' ∧ w9.heap[g']? = w6.heap[g']?) := Lib.hid (fun g' e1 e2 e3 => by
          injection e1 with e1
          injection e1 with e1
          subst e1
          obtain ⟨h1, h2⟩ := HGB.out g rfl e2 e3
          have hk8 : w8.heap[g]? = w6.heap[g]? := (HKW.out.block g HGL.out).trans h2
          refine ⟨fun e => ?_, (hgrow.block g (by simp; omega) fun e => h1 e.symm).trans ((hba.block g hgl8).trans hk8)⟩
          rcases hat with hat | hat
          · exact h1 (hat ▸ e)
          · rw [hat] at e
            have := Option.some.inj e
            omega)
        clear hown9 hgrow hsz hat hba c1 c2
        go_wp2_with fail
        go_roundg (n - (k + 1))
        case measure => have := HG.out; omega
        case rel => exact ⟨k + 1, vp, by omega, rfl, by go_num, by rw [HS1.out]; exact HST9.out, HGB9⟩
      | some c =>
        have HS1 : Hid (fitT f m l (srt.take (k + 1)) = (addU L ⟨y.1, y.2, (c : Int), []⟩, O)) := Lib.hid (HSTEP.out.trans (fitS_some (st := (L, O)) (w := y) HO.out))
        have HPU := Lib.hid (fun G w h => refPut_any G f m vp (.slice none 0 0) L ⟨y.1, y.2, (c : Int), []⟩ w h (PcsIn.nil _ _) (by have := HLE.out; omega) (posU (dropT L y.1) y.1) (posU_at _ _ (dropT_asc HR.out.pairs _)))
        unfold planA plA RetPn planA at HPU
        have HAD := Lib.hid (show putPl (dropT L y.1) ⟨y.1, y.2, (c : Int), []⟩ (posU (dropT L y.1) y.1) = addU L ⟨y.1, y.2, (c : Int), []⟩ from rfl)
        rw [HAD.out] at HPU
        have hcn : decide ((c : Int) < 0) = false := decide_eq_false (by omega)
        unfold coreR at HFR
        simp only at HFR
        go_wp2_with fail
        refine wp_region_held_drew (S := fun w' => w'.cell? ⟨F, 0, none⟩ = some (.int .i64 f) ∧ w'.cell? ⟨F, 1, none⟩ = some (.int .u32 m) ∧ w'.cell? ⟨F, 2, none⟩ = some (vp) ∧ w'.cell? ⟨g, k * 2 + 1, none⟩ = some (.int .i64 y.2)) (by kernel_rfl) ?_ (fun hHeld => ?_)
        · exact HSC.out _ hkd
        refine wpAnyH_take (i := 0) (oi := ⟨some 19, _, _, _, _, _⟩) (v := ?_) rfl (by kernel_rfl) (by kernel_rfl) (by kernel_rfl) (fun _ _ _ h => h) (Or.inl ⟨by kernel_rfl, ?_⟩) (by assumption) ?_
        rotate_left
        · (intro w hSw; (try dsimp only at hSw); go_simp; try with_reducible rfl)
        (try simp only [Act.put, List.setIfInBounds_toArray, List.set_cons_zero, List.set_cons_succ])
        refine wpAnyH_take (i := 1) (oi := ⟨some 20, _, _, _, _, _⟩) (v := ?_) rfl (by kernel_rfl) (by kernel_rfl) (by kernel_rfl) (fun _ _ _ h => h) (Or.inl ⟨by kernel_rfl, ?_⟩) (by assumption) ?_
        rotate_left
        · (intro w hSw; (try dsimp only at hSw); go_simp; try with_reducible rfl)
        (try simp only [Act.put, List.setIfInBounds_toArray, List.set_cons_zero, List.set_cons_succ])
        refine wpAnyH_take (i := 2) (oi := ⟨some 21, _, _, _, _, _⟩) (v := ?_) rfl (by kernel_rfl) (by kernel_rfl) (by kernel_rfl) (fun _ _ _ h => h) (Or.inl ⟨by kernel_rfl, ?_⟩) (by assumption) ?_
        rotate_left
        · (intro w hSw; (try dsimp only at hSw); go_simp; try with_reducible rfl)
        (try simp only [Act.put, List.setIfInBounds_toArray, List.set_cons_zero, List.set_cons_succ])
        refine wpAnyH_take (i := 3) (oi := ⟨some 22, _, _, _, _, _⟩) (v := ?_) rfl (by kernel_rfl) (by kernel_rfl) (by kernel_rfl) (fun _ _ _ h => h) (Or.inl ⟨by kernel_rfl, ?_⟩) (by assumption) ?_
        rotate_left
        · (intro w hSw; (try dsimp only at hSw); go_simp; try with_reducible rfl)
        (try simp only [Act.put, List.setIfInBounds_toArray, List.set_cons_zero, List.set_cons_succ])
        refine wpAnyH_take (i := 4) (oi := ⟨some 23, _, _, _, _, _⟩) (v := ?_) rfl (by kernel_rfl) (by kernel_rfl) (by kernel_rfl) (fun _ _ _ h => h) (Or.inl ⟨by kernel_rfl, ?_⟩) (by assumption) ?_
        rotate_left
        · (intro w hSw; (try dsimp only at hSw); go_simp; try with_reducible rfl)
        (try simp only [Act.put, List.setIfInBounds_toArray, List.set_cons_zero, List.set_cons_succ])
        refine wpAnyH_take (i := 5) (oi := ⟨some 24, _, _, _, _, _⟩) (v := ?_) rfl (by kernel_rfl) (by kernel_rfl) (by kernel_rfl) (fun _ _ _ h => h) (Or.inl ⟨by kernel_rfl, ?_⟩) (by assumption) ?_
        rotate_left
        · (intro w hSw; (try dsimp only at hSw); go_simp; try with_reducible rfl)
        (try simp only [Act.put, List.setIfInBounds_toArray, List.set_cons_zero, List.set_cons_succ])
        refine wpAnyH_ready (rs := [6]) (by kernel_rfl) (by simp) ?_
        refine AllReadyH.cons (o := ⟨some 25, _, _, _, _, _⟩) rfl (fun K hK => ?_) AllReadyH.nil
        rw [if_pos (by kernel_rfl)]
        go_simp
        go_at_call 87; refine HFR.out.mono ?_; rintro e w8 ⟨rfl, hb8⟩
        have hkq := hkd.trans (hb8.mono hkd.size)
        refine hK.out _ _ ?_ (fun hHeld => ?_)
        · exact HSC.out _ hkq
        clear hK K
        (try simp only [Act.put, List.setIfInBounds_toArray, List.set_cons_zero, List.set_cons_succ])
        refine wpAnyH_take (i := 7) (oi := ⟨some 9, _, _, _, _, _⟩) (v := ?_) rfl (by kernel_rfl) (by kernel_rfl) (by kernel_rfl) (fun _ _ _ h => h) (Or.inl ⟨by kernel_rfl, ?_⟩) (by assumption) ?_
        rotate_left
        · (intro w hSw; (try dsimp only at hSw); go_simp; try with_reducible rfl)
        (try simp only [Act.put, List.setIfInBounds_toArray, List.set_cons_zero, List.set_cons_succ])
        refine wpAnyH_done (by kernel_rfl) ?_ _
        have HKW := Lib.hid (hkd.trans (hb8.mono hkd.size))
        clear hHeld hb8 hkq hkd
        have HST8 := Lib.hid (HST.out.keep HKW.out)
        have hdr : Below w8.heap.size w8 w8.drew := (Below.refl w8.heap.size w8).drew
        have HPU8 := Lib.hid (HPU.out (fun b => 0 ≤ b ∧ b ≠ F ∧ u6.ownBlock ≠ some b) w8.drew (HST8.out.keep hdr).pls)
        have hkd2 := HKW.out.drew
        clear HSTEP HPU
        go_wp2_with fail
        as_aux_lemma =>
          refine wp_region_N (S1 := fun w' => w'.cell? ⟨g, k * 2, none⟩ = some (.int .i64 y.1) ∧ w'.cell? ⟨g, k * 2 + 1, none⟩ = some (.int .i64 y.2)) (S2 := fun w' => w'.cell? ⟨F, 0, none⟩ = some (.int .i64 f) ∧ w'.cell? ⟨F, 1, none⟩ = some (.int .u32 m) ∧ w'.cell? ⟨F, 2, none⟩ = some vp) (N := fun i => i != 14) (by kernel_rfl) ?_
          change wpAnyN _ _ _ _ _ _ _ 15 (Array.replicate 15 false) _ _
          refine wpAnyN_take true (i := 0) (oi := ⟨some 35, _, _, _, _, _⟩) (v := ?_) rfl (by kernel_rfl) (by kernel_rfl) (by kernel_rfl) (fun _ _ _ h => h) (Or.inl ⟨by kernel_rfl, ?_⟩) ⟨HSG.out _ hkd2, fun _ => HSF.out _ hkd2⟩ ?_
          rotate_left
          · (intro w hSw; obtain ⟨hSa, hSb⟩ := hSw; have hSc := hSb rfl; clear hSb; (try dsimp only at hSa hSc); go_simp; try with_reducible rfl)
          (try simp only [Act.put, List.setIfInBounds_toArray, List.set_cons_zero, List.set_cons_succ])
          refine wpAnyN_take false (i := 1) (oi := ⟨some 36, _, _, _, _, _⟩) (v := ?_) rfl (by kernel_rfl) (by kernel_rfl) (by kernel_rfl) (fun _ _ _ h => h) (Or.inl ⟨by kernel_rfl, ?_⟩) ⟨HSG.out _ hkd2, fun h => (by cases h)⟩ ?_
          rotate_left
          · (intro w hSw; obtain ⟨hSa, hSb⟩ := hSw; clear hSb; (try dsimp only at hSa); go_simp; try with_reducible rfl)
          (try simp only [Act.put, List.setIfInBounds_toArray, List.set_cons_zero, List.set_cons_succ])
          refine wpAnyN_take false (i := 2) (oi := ⟨some 37, _, _, _, _, _⟩) (v := ?_) rfl (by kernel_rfl) (by kernel_rfl) (by kernel_rfl) (fun _ _ _ h => h) (Or.inl ⟨by kernel_rfl, ?_⟩) ⟨HSG.out _ hkd2, fun h => (by cases h)⟩ ?_
          rotate_left
          · (intro w hSw; obtain ⟨hSa, hSb⟩ := hSw; clear hSb; (try dsimp only at hSa); go_simp; try with_reducible rfl)
          (try simp only [Act.put, List.setIfInBounds_toArray, List.set_cons_zero, List.set_cons_succ])
          refine wpAnyN_take false (i := 3) (oi := ⟨some 38, _, _, _, _, _⟩) (v := ?_) rfl (by kernel_rfl) (by kernel_rfl) (by kernel_rfl) (fun _ _ _ h => h) (Or.inl ⟨by kernel_rfl, ?_⟩) ⟨HSG.out _ hkd2, fun h => (by cases h)⟩ ?_
          rotate_left
          · (intro w hSw; obtain ⟨hSa, hSb⟩ := hSw; clear hSb; (try dsimp only at hSa); go_simp; try with_reducible rfl)
          (try simp only [Act.put, List.setIfInBounds_toArray, List.set_cons_zero, List.set_cons_succ])
          refine wpAnyN_take false (i := 4) (oi := ⟨some 39, _, _, _, _, _⟩) (v := ?_) rfl (by kernel_rfl) (by kernel_rfl) (by kernel_rfl) (fun _ _ _ h => h) (Or.inl ⟨by kernel_rfl, ?_⟩) ⟨HSG.out _ hkd2, fun h => (by cases h)⟩ ?_
          rotate_left
          · (intro w hSw; obtain ⟨hSa, hSb⟩ := hSw; clear hSb; (try dsimp only at hSa); go_simp; try with_reducible rfl)
          (try simp only [Act.put, List.setIfInBounds_toArray, List.set_cons_zero, List.set_cons_succ])
          refine wpAnyN_take false (i := 5) (oi := ⟨some 40, _, _, _, _, _⟩) (v := ?_) rfl (by kernel_rfl) (by kernel_rfl) (by kernel_rfl) (fun _ _ _ h => h) (Or.inl ⟨by kernel_rfl, ?_⟩) ⟨HSG.out _ hkd2, fun h => (by cases h)⟩ ?_
          rotate_left
          · (intro w hSw; obtain ⟨hSa, hSb⟩ := hSw; clear hSb; (try dsimp only at hSa); go_simp; try with_reducible rfl)
          (try simp only [Act.put, List.setIfInBounds_toArray, List.set_cons_zero, List.set_cons_succ])
          refine wpAnyN_take false (i := 6) (oi := ⟨some 41, _, _, _, _, _⟩) (v := ?_) rfl (by kernel_rfl) (by kernel_rfl) (by kernel_rfl) (fun _ _ _ h => h) (Or.inl ⟨by kernel_rfl, ?_⟩) ⟨HSG.out _ hkd2, fun h => (by cases h)⟩ ?_
          rotate_left
          · (intro w hSw; obtain ⟨hSa, hSb⟩ := hSw; clear hSb; (try dsimp only at hSa); go_simp; try with_reducible rfl)
          (try simp only [Act.put, List.setIfInBounds_toArray, List.set_cons_zero, List.set_cons_succ])
          refine wpAnyN_take false (i := 7) (oi := ⟨some 42, _, _, _, _, _⟩) (v := ?_) rfl (by kernel_rfl) (by kernel_rfl) (by kernel_rfl) (fun _ _ _ h => h) (Or.inl ⟨by kernel_rfl, ?_⟩) ⟨HSG.out _ hkd2, fun h => (by cases h)⟩ ?_
          rotate_left
          · (intro w hSw; obtain ⟨hSa, hSb⟩ := hSw; clear hSb; (try dsimp only at hSa); go_simp; try with_reducible rfl)
          (try simp only [Act.put, List.setIfInBounds_toArray, List.set_cons_zero, List.set_cons_succ])
          refine wpAnyN_take false (i := 8) (oi := ⟨some 43, _, _, _, _, _⟩) (v := ?_) rfl (by kernel_rfl) (by kernel_rfl) (by kernel_rfl) (fun _ _ _ h => h) (Or.inl ⟨by kernel_rfl, ?_⟩) ⟨HSG.out _ hkd2, fun h => (by cases h)⟩ ?_
          rotate_left
          · (intro w hSw; obtain ⟨hSa, hSb⟩ := hSw; clear hSb; (try dsimp only at hSa); go_simp; try with_reducible rfl)
          (try simp only [Act.put, List.setIfInBounds_toArray, List.set_cons_zero, List.set_cons_succ])
          refine wpAnyN_take false (i := 9) (oi := ⟨some 44, _, _, _, _, _⟩) (v := ?_) rfl (by kernel_rfl) (by kernel_rfl) (by kernel_rfl) (fun _ _ _ h => h) (Or.inl ⟨by kernel_rfl, ?_⟩) ⟨HSG.out _ hkd2, fun h => (by cases h)⟩ ?_
          rotate_left
          · (intro w hSw; obtain ⟨hSa, hSb⟩ := hSw; clear hSb; (try dsimp only at hSa); go_simp; try with_reducible rfl)
          (try simp only [Act.put, List.setIfInBounds_toArray, List.set_cons_zero, List.set_cons_succ])
          refine wpAnyN_take false (i := 10) (oi := ⟨some 45, _, _, _, _, _⟩) (v := ?_) rfl (by kernel_rfl) (by kernel_rfl) (by kernel_rfl) (fun _ _ _ h => h) (Or.inl ⟨by kernel_rfl, ?_⟩) ⟨HSG.out _ hkd2, fun h => (by cases h)⟩ ?_
          rotate_left
          · (intro w hSw; obtain ⟨hSa, hSb⟩ := hSw; clear hSb; (try dsimp only at hSa); go_simp; try with_reducible rfl)
          (try simp only [Act.put, List.setIfInBounds_toArray, List.set_cons_zero, List.set_cons_succ])
          refine wpAnyN_take false (i := 11) (oi := ⟨some 46, _, _, _, _, _⟩) (v := ?_) rfl (by kernel_rfl) (by kernel_rfl) (by kernel_rfl) (fun _ _ _ h => h) (Or.inl ⟨by kernel_rfl, ?_⟩) ⟨HSG.out _ hkd2, fun h => (by cases h)⟩ ?_
          rotate_left
          · (intro w hSw; obtain ⟨hSa, hSb⟩ := hSw; clear hSb; (try dsimp only at hSa); go_simp; try with_reducible rfl)
          (try simp only [Act.put, List.setIfInBounds_toArray, List.set_cons_zero, List.set_cons_succ])
          refine wpAnyN_take false (i := 12) (oi := ⟨some 47, _, _, _, _, _⟩) (v := ?_) rfl (by kernel_rfl) (by kernel_rfl) (by kernel_rfl) (fun _ _ _ h => h) (Or.inl ⟨by kernel_rfl, ?_⟩) ⟨HSG.out _ hkd2, fun h => (by cases h)⟩ ?_
          rotate_left
          · (intro w hSw; obtain ⟨hSa, hSb⟩ := hSw; clear hSb; (try dsimp only at hSa); go_simp; try with_reducible rfl)
          (try simp only [Act.put, List.setIfInBounds_toArray, List.set_cons_zero, List.set_cons_succ])
          refine wpAnyN_step (i := 13) (by kernel_rfl) rfl (by kernel_rfl) ?_
          intro K' hK
          (try simp only [Act.put, List.setIfInBounds_toArray, List.set_cons_zero, List.set_cons_succ])
          go_simp
          go_at_call 88; refine HPU8.out.mono ?_; rintro e w9 ⟨v9, rfl, hpl9, hb9⟩
          obtain ⟨A9, c9, hv9, _, _⟩ := hpl9.form
          obtain ⟨n9, hn9⟩ : ∃ n9, (addU L ⟨y.1, y.2, (c : Int), []⟩).length = n9 := ⟨_, rfl⟩
          rw [hn9] at hv9
          subst hv9
          have hkz := hkd2.trans (hb9.mono hkd2.size)
          refine hK.out _ _ (HSG.out _ hkz) (fun _ _ => (HSF.out _ hkz)) ?_
          clear hK K'
          (try simp only [Act.put, List.setIfInBounds_toArray, List.set_cons_zero, List.set_cons_succ])
          have HB9 := Lib.hid (HST8.out.keep (hdr.trans (hb9.mono hdr.size)))
          have HST9 := Lib.hid (HST8.out.putG (hdr.trans (hb9.mono hdr.size)) (hpl9.mono (G := fun b => (0 ≤ b ∧ b ≠ F ∧ u6.ownBlock ≠ some b) ∨ w8.heap.size ≤ b) fun b _ h => h) HF6.out)
          refine wpAnyN_step (i := 14) (by kernel_rfl) rfl (by kernel_rfl) ?_
          intro K' hK
          (try simp only [Act.put, List.setIfInBounds_toArray, List.set_cons_zero, List.set_cons_succ])
          refine wp_store_row _ _ _ rfl F #[.int .i64 f, .int .u32 m, .slice A9 n9 c9] (by simp [Act.eval, Act.put]) (by simp [Act.eval, Act.put]) 26 _ HB9.out.box (Tryz.sizePn _ _ _) rfl (one3 _ _ _ _ _) ?_
          refine hK.out _ _ (⟨(cell_set_neR HGF.out _ _).trans (HSG.out _ hkz).1, (cell_set_neR HGF.out _ _).trans (HSG.out _ hkz).2⟩) (fun h => by cases h) ?_
          clear hK K'
          (try simp only [Act.put, List.setIfInBounds_toArray, List.set_cons_zero, List.set_cons_succ])
          refine wpAnyN_done (by kernel_rfl) ?_
          have HGB9 : Hid (∀ g', (some ⟨g, 0, none⟩ : Option Addr) = some ⟨g', 0, none⟩ → w3.heap.size ≤ g' → g' < w6.heap.size → u6.ownBlock ≠ some g' ∧ (w9.setRow F #[.int .i64 f, .int .u32 m, .slice A9 n9 c9]).heap[g']? = w6.heap[g']?) := Lib.hid (fun g' e1 e2 e3 => by
            injection e1 with e1
            injection e1 with e1
            subst e1
            obtain ⟨h1, h2⟩ := HGB.out g rfl e2 e3
            exact ⟨h1, (setRow_other _ _ _ _ HGF.out).trans ((hkz.block g HGL.out).trans h2)⟩)
          clear hb9 hpl9 hkz hn9
          go_wp2_with fail
          go_roundg (n - (k + 1))
          case measure => have := HG.out; omega
          case rel => exact ⟨k + 1, _, by omega, rfl, by go_num, by rw [HS1.out]; exact HST9.out, HGB9⟩
    · have hltz : ¬ (k : Int) < (n : Int) := by omega
      have HTK := Lib.hid (show srt.take k = srt from List.take_of_length_le (by rw [HN.out]; omega))
      rw [HTK.out] at hst
      have hRne : ¬ R = F := by have := HLT.out; omega
      have HRB7 := Lib.hid ((hst.apart.block R (by have := HLT.out; omega) hRne).trans HRB2.out)
      have hob : ∀ b, u6.ownBlock = some b → b ≠ R := fun b hb => by have := own_base5 hst.own b hb; have := HLT.out; omega
      have HEND : Hid (RetFitR f m l ws w (.returned (.tuple #[planA f m vp, u6])) (wo.setRow R #[.int .i64 f, .int .u32 m, vp])) := Lib.hid ⟨vp, u6, rfl, by
        rw [HSR.out]
        exact ((pls_not HRB7.out hst.pls).keepF (by simp [World.setRow]) fun b _ hF => setRow_other _ _ _ _ hF.2).any, by
        rw [HSR.out]
        exact spans_of_own (base := w2.heap.size) (e := 52) (own_keep hst.own fun b hb => setRow_other _ _ _ _ (hob b hb)) (by
          have h1 := hinv.len
          have h2 := HLL.out
          have h3 := HSL.out
          rw [HTK.out] at h1
          omega), below_row (HB2.out.trans (hst.apart.below HB2.out.size fun b hb e => by have := HLT.out; omega)) (by have := HLT.out; omega) _⟩
      obtain ⟨Av, cv, hvv, _, _⟩ := hst.pls.form
      obtain ⟨nv, hnv⟩ : ∃ nv, (fitT f m l srt).1.length = nv := ⟨_, rfl⟩
      rw [hnv] at hvv
      subst hvv
      obtain ⟨f0, f1, f2⟩ := three_heads hst.box
      clear hg hst hinv hlen hob hnv
      go_wp2_with (refine wpList_store_row rfl _ _ _ rfl R #[.int .i64 f, .int .u32 m, .slice Av nv cv] rfl rfl 26 _ HRB7.out (Tryz.sizePn _ _ _) rfl (one3 _ _ _ _ _) ?_)
      refine bodyPost_ret (v := .tuple #[planA f m (.slice Av nv cv), u6]) (results_row_tmp rfl _ _ R _ _ _ _ rfl (setRow_heap _ _ _ _ _ _ HRB7.out) Tryz.underlying26 rfl (Tryz.sizePn _ _ _) _ rfl) rfl ?_
      exact HEND.out
end Go.Proofs.YtpfpojehcjmfnaaGreat
