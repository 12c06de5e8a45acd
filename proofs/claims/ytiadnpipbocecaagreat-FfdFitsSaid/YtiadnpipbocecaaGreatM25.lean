/-
  A law on regions whose order is open: a load may be taken first where every operation that could come before it leaves the loaded cells as they are, though a store that waits for all loads writes them.
  Conditions: those of each law. The condition S is shown anew behind the operations that N names, not behind the others.
-/
import Derived.Test.YtiadnpipbocecaaGreatM22
import Derived.Test.YtiadnpipbocecaaGreatM02
import Derived.Laws.OwnMore
import Derived.OrdersHeld
import Derived.WalkKit
import Derived.Deep.RegionHeld

/-
  Put and Sort of wants, of the document.
  Conditions: the slice reads as wants.
-/
set_option linter.unusedVariables false
namespace Go.Proofs.YtiadnpipbocecaaGreat
open Go.RowKit

theorem spansCells_drop : ∀ (ps : List Sp) (i : Nat), (spansCells ps).drop (i * 2) = spansCells (ps.drop i)
  | [], i => by simp [spansCells]
  | p :: ps, 0 => by simp [spansCells]
  | p :: ps, i + 1 => by
    rw [spansCells_cons, show (i + 1) * 2 = i * 2 + 1 + 1 by omega, List.drop_succ_cons, List.drop_succ_cons, spansCells_drop ps i, List.drop_succ_cons]
theorem own_block_lt {W : World} {base e size n : Nat} {v : Value} {xs : List Value} (h : W.ownsRow base e size v n xs) : ∀ k, v.ownBlock = some k → k < W.heap.size := by
  intro k hk
  rcases h.2 with ⟨h1, _⟩ | ⟨g, cap, cur, h1, _, h3, _⟩
  · subst h1; cases hk
  · subst h1; cases hk; exact (Array.getElem?_eq_some_iff.1 h3).1
theorem box_cells (w : World) (x : Sp) (t : Nat) {w' : World} (h : Below (w.alloc (.cells #[.int .i64 x.1, .int .i64 x.2] t)).heap.size (w.alloc (.cells #[.int .i64 x.1, .int .i64 x.2] t)) w') :
    w'.cell? ⟨w.heap.size, 0, none⟩ = some (.int .i64 x.1) ∧ w'.cell? ⟨w.heap.size, 1, none⟩ = some (.int .i64 x.2) ∧ w.heap.size < w'.heap.size := by
  have hs := h.size
  have e : (w.alloc (.cells #[.int .i64 x.1, .int .i64 x.2] t)).heap.size = w.heap.size + 1 := by simp
  refine ⟨(h.cell (p := ⟨w.heap.size, 0, none⟩) (by simp)).trans (by simp), (h.cell (p := ⟨w.heap.size, 1, none⟩) (by simp)).trans (by simp), by omega⟩
/-- Nothing is appended to a row of the call's own: from a nil slice, whatever it says of its room. -/
theorem wpList_append_none5 {P : Program} {w : World} {ops : Array Oper} {rest : List Oper} {o : Oper} {a : Act} {Q : Exit → Act → World → Prop} (hgd : o.guard = none) (s x : Operand) (t : TypeId)
    (ho : o.op = .call { callee := .builtin .append, args := #[s, x], argTypes := #[t, t] })
    (base : Nat) (e : TypeId) (i : TypeInfo) (size : Nat) (ht : P.underlying t = some (.slice e)) (hi : P.info? e = some i)
    (v : Value) (n : Nat) (xs : List Value) (hs : a.eval s = v) (hown : w.ownsRow base e size v n xs) (c : Nat) (hx : a.eval x = .slice none 0 c)
    (h : wpList P ops Q rest (a.put o.dst v) w) : wpList P ops Q (o :: rest) a w := by
  refine wpList_plain hgd fun K hK => ?_
  have hrun : (Builtin.append_ #[t, t] o.type #[v, .slice none 0 c]).run P w = .ok v w := by
    rcases hown.2 with ⟨rfl, rfl⟩ | ⟨g, cap, cur, rfl, _, _, hnc, _⟩
    · simp [Builtin.append_, run_underlying ht, sizeOf, typeInfo, hi, Builtin.lenOf, Builtin.firstCells]
    · simp [Builtin.append_, run_underlying ht, sizeOf, typeInfo, hi, Builtin.lenOf, Builtin.firstCells, hnc, storeCells]
  unfold Oper.wp
  simp [execOp, ho, resolve, invoke, builtin, hs, hx, hrun, Result.andThen]
  exact hK _ _ h
theorem own_emptyW (w : World) (t : Nat) : (w.alloc (Obj.cells #[] t)).ownsRow w.heap.size t 2 (.slice (some ⟨w.heap.size, 0, none⟩) 0 0) 0 [] :=
  ⟨rfl, .inr ⟨w.heap.size, 0, #[], rfl, Nat.le_refl _, heap_alloc_new w _, Nat.le_refl _, Nat.zero_le _, rfl, rfl⟩⟩
/-- The cells of a part of a slice that reads as wants, in a later world. -/
theorem part_cells {W W2 : World} {b off n c : Nat} {ps : List Sp} (h : SpansAt W (.slice (some ⟨b, off, none⟩) n c) ps) (hb : Below W.heap.size W W2) (k m : Nat) :
    ∀ j u, (spansCells ((ps.drop k).take m))[j]? = some u → W2.cell? ((⟨b, off + k * 2, none⟩ : Addr).add j) = some u := by
  intro j u hj
  obtain ⟨A, c', h1, h2, h3, h4, h5⟩ := h.keep hb
  injection h1 with e1 e2 e3
  have hp : 0 < ps.length := by
    have := (List.getElem?_eq_some_iff.1 hj).1
    rw [spansCells_length, List.length_take, List.length_drop] at this
    omega
  obtain ⟨b', off', e, hbl, hcell⟩ := h5 hp
  rw [e] at e1
  cases e1
  rw [Addr.add_lit, Nat.add_assoc]
  refine spansCells_of hcell (k * 2 + j) u ?_
  rw [← spansCells_take, ← spansCells_drop, List.getElem?_take] at hj
  split at hj
  · rwa [List.getElem?_drop] at hj
  · cases hj
/-- The cells of a slice that reads as spans, in a later world. -/
theorem news_of {W W2 : World} {p : Addr} {n c : Nat} {ps : List Sp} (h : SpansAt W (.slice (some p) n c) ps) (hb : Below W.heap.size W W2) : ∀ j u, (spansCells ps)[j]? = some u → W2.cell? (p.add j) = some u := by
  intro j u hj
  obtain ⟨A, c', h1, h2, h3, h4, h5⟩ := h.keep hb
  injection h1 with e1 e2 e3
  have hp : 0 < ps.length := by
    have := (List.getElem?_eq_some_iff.1 hj).1
    rw [spansCells_length] at this; omega
  obtain ⟨b, off, e, hbl, hcell⟩ := h5 hp
  rw [e] at e1
  cases e1
  rw [Addr.add_lit]
  exact spansCells_of hcell j u hj
theorem spans_empty {W : World} {n c : Nat} {ps : List Sp} (h : SpansAt W (.slice none n c) ps) : n = 0 ∧ ps = [] := by
  obtain ⟨A, c', h1, h2, h3, h4, h5⟩ := h
  injection h1 with e1 e2 e3
  subst e1 e2
  rcases Nat.eq_zero_or_pos ps.length with h | h
  · exact ⟨h, List.eq_nil_of_length_eq_zero h⟩
  · obtain ⟨b, off, e, _⟩ := h5 h; cases e

set_option maxRecDepth 100000 in
set_option maxHeartbeats 4000000 in
theorem refPutW_any (v : Value) (ps : List Sp) (x : Sp) (w : World) (h : SpansAt w v ps) (hl : ps.length ≤ 1000) :
    Calls Tryz.prog 54 #[v, .agg #[.int .i64 x.1, .int .i64 x.2]] w (RetO w.heap.size 45 (putT x ps) w) := by
  obtain ⟨i0, hi, hz0, hz1, hz2⟩ := info_parts Tryz.infoSpan
  have mixed : Tryz.prog.follows .mixedOrders = true := by kernel_rfl
  have hb0 : Below w.heap.size w (w.alloc (.cells #[.int .i64 x.1, .int .i64 x.2] 45)) := (Below.refl _ _).alloc (Nat.le_refl _) _
  have HB0 := Lib.hid hb0
  have HBOX := Lib.hid (fun w' hb => box_cells w x 45 (w' := w') hb)
  have HX := Lib.hid h
  have HPUT := Lib.hid (fun k hk => put_at x (l := ps) (k := k) hk)
  have HA := Lib.hid (fun y W => refAhead_any x y W)
  have hz : (w.alloc (.cells #[.int .i64 x.1, .int .i64 x.2] 45)).heap.size = w.heap.size + 1 := by simp
  obtain ⟨A, c, rfl, hc1, hlen, hc2, hat⟩ := h
  have HAT := Lib.hid hat
  generalize hn : ps.length = n at *
  have HN := Lib.hid hn
  clear hat hn hb0
  obtain ⟨x1, x2⟩ := x
  simp only at HB0 HBOX HA hz
  go_enter Tryz.func54, Tryz.ntmps54
  go_wp2_with fail
  go_loopg [5] n (fun gg s5 wr => ∃ k : Nat, k ≤ n ∧ gg = n - k ∧ s5 = .int .i64 k ∧ Below (w.heap.size + 1) (w.alloc (.cells #[.int .i64 x1, .int .i64 x2] 45)) wr ∧ ∀ (j : Nat) (y : Sp), j < k → ps[j]? = some y → aheadB (x1, x2) y = false)
  case atStart => exact ⟨0, Nat.zero_le _, by omega, rfl, Below.refl _ _, fun j y hj => absurd hj (Nat.not_lt_zero _)⟩
  case round =>
    obtain ⟨k, hkn, hgg, rfl, hbw, hall⟩ := hrel
    have HG := Lib.hid hgg
    have HB := Lib.hid hbw
    have HALL := Lib.hid hall
    have hsz : w.heap.size + 1 ≤ wr.heap.size := by have := hbw.size; omega
    have HBW := Lib.hid (HB0.out.trans (hbw.mono (by omega)))
    obtain ⟨g0, g1, g2⟩ := HBOX.out wr (by rw [hz]; exact hbw)
    clear hgg hbw hall
    by_cases hlt : k < n
    · have hltz : (k : Int) < (n : Int) := by omega
      obtain ⟨b, off, hA, hbl, hcell⟩ := HAT.out (by omega)
      subst hA
      obtain ⟨y, hy⟩ := ex_at (xs := ps) (k := k) (by rw [HN.out]; exact hlt)
      obtain ⟨c1, c2⟩ := (hcell k y hy).keep HBW.out hbl
      have HAY := Lib.hid (HA.out y)
      have HY := Lib.hid hy
      have hblr : b < wr.heap.size := by omega
      obtain ⟨r, hr⟩ : ∃ r, aheadB (x1, x2) y = r := ⟨_, rfl⟩
      rw [hr] at HAY
      have HR := Lib.hid hr
      obtain ⟨y1, y2⟩ := y
      simp only at c1 c2 HAY
      clear hcell hy hr
      go_wp2_with fail
      go_region_held3 (fun w' => w'.cell? ⟨w.heap.size, 0, none⟩ = some (.int .i64 x1) ∧ w'.cell? ⟨w.heap.size, 1, none⟩ = some (.int .i64 x2) ∧ w'.cell? ⟨b, off + k * 2, none⟩ = some (.int .i64 y1) ∧ w'.cell? ⟨b, off + k * 2 + 1, none⟩ = some (.int .i64 y2))
        (first | go_keep | exact ⟨(hb.cell (p := ⟨w.heap.size, 0, none⟩) g2).trans g0, (hb.cell (p := ⟨w.heap.size, 1, none⟩) g2).trans g1, (hb.cell (p := ⟨b, off + k * 2, none⟩) hblr).trans c1, (hb.cell (p := ⟨b, off + k * 2 + 1, none⟩) hblr).trans c2⟩)
        (first | (go_at_call 80; refine (HAY.out _).mono ?_; rintro e w' ⟨rfl, hb⟩))
      have HW : Hid (Below wr.heap.size wr w') := (Below.refl _ wr).drew.trans hb
      have HB5 := Lib.hid (HB.out.trans (HW.out.mono hsz))
      clear hb
      cases r
      · have HALL2 : Hid (∀ (j : Nat) (y : Sp), j < k + 1 → ps[j]? = some y → aheadB (x1, x2) y = false) := fun j z hj hz => by
          by_cases e : j = k
          · subst e
            rw [HY.out] at hz
            cases hz
            exact HR.out
          · exact HALL.out j z (by omega) hz
        go_wp2_with fail
        go_roundg (n - (k + 1))
        case measure => have := HG.out; omega
        case rel => exact ⟨k + 1, by omega, rfl, by go_num, HB5.out, HALL2.out⟩
      · have HFA : Hid (FirstAhead (x1, x2) ps k) := ⟨by have := HN.out; omega, HALL.out, fun z hz => by
          rw [HY.out] at hz
          cases hz
          exact HR.out⟩
        have HS5 : w.heap.size + 1 ≤ w'.heap.size := by have := HB5.out.size; omega
        have HO5 := Lib.hid (own_emptyW w' 45)
        have HBA : Hid (Below (w.heap.size + 1) (w.alloc (.cells #[.int .i64 x1, .int .i64 x2] 45)) (w'.alloc (Obj.cells #[] 45))) := HB5.out.alloc HS5 _
        have HBAW := Lib.hid (HB0.out.trans (HBA.out.mono (by omega)))
        have HN1 : Hid (∀ j u, (spansCells (ps.take k))[j]? = some u → (w'.alloc (Obj.cells #[] 45)).cell? ((⟨b, off, none⟩ : Addr).add j) = some u) := fun j u hj => by
          refine news_of HX.out HBAW.out j u ?_
          rw [← spansCells_take, List.getElem?_take] at hj
          split at hj
          · exact hj
          · cases hj
        have HL1 : Hid ((spansCells (ps.take k)).length = k * 2) := by
          show _ = _
          rw [spansCells_length, List.length_take]
          have := HN.out
          omega
        have HE1 := Lib.hid (spansCells_one (ps.take k))
        have HM1 := Lib.hid (show 0 + k ≤ maxLen by unfold maxLen; omega)
        have HY1 := Lib.hid (show (0 + k) * 16 ≤ 140737488355328 by omega)
        have HZ1 := Lib.hid (show w'.heap.size ≤ (w'.alloc (Obj.cells #[] 45)).heap.size by simp)
        have hkc : (k : Int) ≤ (c : Int) := by omega
        have hk00 : (0 : Int) ≤ (k : Int) := by omega
        go_wp2_with (at_builtin; refine wpList_append_own _ rfl _ _ 26 rfl w'.heap.size 45 i0 (.agg #[.int .i64 0, .int .i64 0]) 2 16 Tryz.underlying26 hi hz0 hz1 hz2 rfl (by decide) _ _ _ rfl HO5.out ⟨b, off, none⟩ k c (spansCells (ps.take k)) rfl HL1.out HN1.out HE1.out HM1.out HY1.out HZ1.out ?_)
        intro v6 w6 hown6 hgrow6 _
        have HO6 := Lib.hid hown6
        have HB6 := Lib.hid (HBA.out.trans ((below_grown5 hgrow6 HZ1.out (own_base5 HO5.out)).mono HS5))
        have HS6 : w'.heap.size ≤ w6.heap.size := by have := (below_grown5 hgrow6 HZ1.out (own_base5 HO5.out)).size; simp at this; omega
        clear hown6 hgrow6 HN1 HL1 HE1
        obtain ⟨g60, g61, g62⟩ := HBOX.out w6 (by rw [hz]; exact HB6.out)
        have HO6a := Lib.hid (own_below5 HO6.out ((Below.refl _ w6).alloc (Nat.le_refl _) (Obj.cells #[.int .i64 x1, .int .i64 x2] 45)))
        have HB6a : Hid (Below (w.heap.size + 1) (w.alloc (.cells #[.int .i64 x1, .int .i64 x2] 45)) (w6.alloc (Obj.cells #[.int .i64 x1, .int .i64 x2] 45))) := HB6.out.alloc (by omega) _
        have HN2 := Lib.hid (news_two w6 w6.heap.size rfl 45 x1 x2)
        have HE2 := Lib.hid (show ∀ u ∈ [Value.int .i64 x1, .int .i64 x2], u.oneCell' = true from fun u hu => by simp at hu; rcases hu with rfl | rfl <;> rfl)
        have HM2 := Lib.hid (show k + 1 ≤ maxLen by unfold maxLen; omega)
        have HY2 := Lib.hid (show (k + 1) * 16 ≤ 140737488355328 by omega)
        have HZ2 := Lib.hid (show w'.heap.size ≤ (w6.alloc (Obj.cells #[.int .i64 x1, .int .i64 x2] 45)).heap.size by simp; omega)
        go_wp2_with (at_builtin; refine wpList_append_own _ rfl _ _ 26 rfl w'.heap.size 45 i0 (.agg #[.int .i64 0, .int .i64 0]) 2 16 Tryz.underlying26 hi hz0 hz1 hz2 rfl (by decide) _ _ _ rfl HO6a.out ⟨w6.heap.size, 0, none⟩ 1 1 [.int .i64 x1, .int .i64 x2] rfl rfl HN2.out HE2.out HM2.out HY2.out HZ2.out ?_)
        intro v7 w7 hown7 hgrow7 _
        have HO7 := Lib.hid hown7
        have HB7 := Lib.hid (HB6a.out.trans ((below_grown5 hgrow7 HZ2.out (own_base5 HO6a.out)).mono HS5))
        have HS7 : w'.heap.size ≤ w7.heap.size := by have := (below_grown5 hgrow7 HZ2.out (own_base5 HO6a.out)).size; simp at this; omega
        clear hown7 hgrow7 g60 g61 g62
        have HB7W := Lib.hid (HB0.out.trans (HB7.out.mono (by omega)))
        have HN3 : Hid (∀ j u, (spansCells (ps.drop k))[j]? = some u → w7.cell? ((⟨b, off + k * 2, none⟩ : Addr).add j) = some u) := fun j u hj => by
          refine part_cells HX.out HB7W.out k n j u ?_
          rwa [List.take_of_length_le (by rw [List.length_drop]; have := HN.out; omega)]
        have HL3 : Hid ((spansCells (ps.drop k)).length = (n - k) * 2) := by
          show _ = _
          rw [spansCells_length, List.length_drop, HN.out]
        have HE3 := Lib.hid (spansCells_one (ps.drop k))
        have HM3 := Lib.hid (show k + 1 + (n - k) ≤ maxLen by unfold maxLen; omega)
        have HY3 := Lib.hid (show (k + 1 + (n - k)) * 16 ≤ 140737488355328 by omega)
        have HZ3 := Lib.hid HS7
        have hck : ¬ (c = k) := by omega
        have hkn' : (k : Int) ≤ (n : Int) := by omega
        go_wp2_with (at_builtin; refine wpList_append_own _ rfl _ _ 26 rfl w'.heap.size 45 i0 (.agg #[.int .i64 0, .int .i64 0]) 2 16 Tryz.underlying26 hi hz0 hz1 hz2 rfl (by decide) _ _ _ rfl HO7.out ⟨b, off + k * 2, none⟩ (n - k) (c - k) (spansCells (ps.drop k)) rfl HL3.out HN3.out HE3.out HM3.out HY3.out HZ3.out ?_)
        intro v8 w8 hown8 hgrow8 _
        have HO8 := Lib.hid hown8
        have HB8 := Lib.hid (HB7W.out.trans ((below_grown5 hgrow8 HZ3.out (own_base5 HO7.out)).mono (by omega)))
        clear hown8 hgrow8
        go_wp2
        go_ret
        refine ⟨_, rfl, ?_, HB8.out⟩
        have h8 := HO8.out
        rw [HPUT.out k HFA.out]
        have e1 : (ps.take k ++ [(x1, x2)] ++ ps.drop k).length = n + 1 := by have := HN.out; simp; omega
        have e2 : k + 1 + (n - k) = n + 1 := by omega
        rw [e1, spansCells_append, spansCells_snoc, List.append_assoc]
        try rw [e2] at h8
        exact own_mono5 (base := w'.heap.size) h8 (by omega)
    · have hke : k = n := by omega
      have hltz : ¬ (k : Int) < (n : Int) := by omega
      have HFA : Hid (FirstAhead (x1, x2) ps k) := ⟨by have := HN.out; omega, HALL.out, fun z hz => by
        rw [List.getElem?_eq_none (by have := HN.out; omega)] at hz
        cases hz⟩
      subst hke
      clear hlt hltz
      have hltz : ((k : Int) < (k : Int)) = False := by simp
      cases A with
      | none =>
        obtain ⟨hk0, hnil⟩ := spans_empty HX.out
        subst hnil hk0
        go_wp2_with fail
        go_quiet (fail)
        have HB5 := Lib.hid (below_drewN HB.out nq)
        generalize wr.drewN nq = wq at *
        have HS5 : w.heap.size + 1 ≤ wq.heap.size := by have := HB5.out.size; omega
        have HO5 := Lib.hid (own_emptyW wq 45)
        have HBA : Hid (Below (w.heap.size + 1) (w.alloc (.cells #[.int .i64 x1, .int .i64 x2] 45)) (wq.alloc (Obj.cells #[] 45))) := HB5.out.alloc HS5 _
        obtain ⟨g60, g61, g62⟩ := HBOX.out _ (by rw [hz]; exact HBA.out)
        have HO6a := Lib.hid (own_below5 HO5.out ((Below.refl _ (wq.alloc (Obj.cells #[] 45))).alloc (Nat.le_refl _) (Obj.cells #[.int .i64 x1, .int .i64 x2] 45)))
        have HB6a : Hid (Below (w.heap.size + 1) (w.alloc (.cells #[.int .i64 x1, .int .i64 x2] 45)) ((wq.alloc (Obj.cells #[] 45)).alloc (Obj.cells #[.int .i64 x1, .int .i64 x2] 45))) := HBA.out.alloc (by simp; omega) _
        have HN2 := Lib.hid (news_two (wq.alloc (Obj.cells #[] 45)) (wq.heap.size + 1) (by simp) 45 x1 x2)
        have HE2 := Lib.hid (show ∀ u ∈ [Value.int .i64 x1, .int .i64 x2], u.oneCell' = true from fun u hu => by simp at hu; rcases hu with rfl | rfl <;> rfl)
        have HM2 := Lib.hid (show 0 + 1 ≤ maxLen by unfold maxLen; omega)
        have HY2 := Lib.hid (show (0 + 1) * 16 ≤ 140737488355328 by omega)
        have HZ2 := Lib.hid (show wq.heap.size ≤ ((wq.alloc (Obj.cells #[] 45)).alloc (Obj.cells #[.int .i64 x1, .int .i64 x2] 45)).heap.size by simp; omega)
        go_wp2_with (first
          | (at_builtin; refine wpList_append_none5 rfl _ _ 26 rfl wq.heap.size 45 i0 2 Tryz.underlying26 hi _ _ _ rfl HO5.out c rfl ?_)
          | (at_builtin; refine wpList_append_own _ rfl _ _ 26 rfl wq.heap.size 45 i0 (.agg #[.int .i64 0, .int .i64 0]) 2 16 Tryz.underlying26 hi hz0 hz1 hz2 rfl (by decide) _ _ _ rfl HO6a.out ⟨wq.heap.size + 1, 0, none⟩ 1 1 [.int .i64 x1, .int .i64 x2] rfl rfl HN2.out HE2.out HM2.out HY2.out HZ2.out ?_))
        all_goals
          intro v7 w7 hown7 hgrow7 _
          have HO7 := Lib.hid hown7
          have HB7 := Lib.hid (HB6a.out.trans ((below_grown5 hgrow7 HZ2.out (own_base5 HO6a.out)).mono HS5))
          clear hown7 hgrow7 g60 g61 g62
          by_cases hck : c = 0
          all_goals
            go_wp2_with (at_builtin; refine wpList_append_none5 rfl _ _ 26 rfl wq.heap.size 45 i0 2 Tryz.underlying26 hi _ _ _ rfl HO7.out _ rfl ?_)
            go_ret
            exact ⟨_, rfl, own_mono5 (base := wq.heap.size) HO7.out (by omega), HB0.out.trans (HB7.out.mono (by omega))⟩
      | some a =>
        go_wp2_with fail
        go_quiet (fail)
        have HB5 := Lib.hid (below_drewN HB.out nq)
        generalize wr.drewN nq = wq at *
        have HS5 : w.heap.size + 1 ≤ wq.heap.size := by have := HB5.out.size; omega
        have HO5 := Lib.hid (own_emptyW wq 45)
        have HBA : Hid (Below (w.heap.size + 1) (w.alloc (.cells #[.int .i64 x1, .int .i64 x2] 45)) (wq.alloc (Obj.cells #[] 45))) := HB5.out.alloc HS5 _
        have HBAW := Lib.hid (HB0.out.trans (HBA.out.mono (by omega)))
        have HN1 : Hid (∀ j u, (spansCells (ps.take k))[j]? = some u → (wq.alloc (Obj.cells #[] 45)).cell? ((a : Addr).add j) = some u) := fun j u hj => by
          refine news_of HX.out HBAW.out j u ?_
          rw [← spansCells_take, List.getElem?_take] at hj
          split at hj
          · exact hj
          · cases hj
        have HL1 : Hid ((spansCells (ps.take k)).length = k * 2) := by
          show _ = _
          rw [spansCells_length, List.length_take]
          have := HN.out
          omega
        have HE1 := Lib.hid (spansCells_one (ps.take k))
        have HM1 := Lib.hid (show 0 + k ≤ maxLen by unfold maxLen; omega)
        have HY1 := Lib.hid (show (0 + k) * 16 ≤ 140737488355328 by omega)
        have HZ1 := Lib.hid (show wq.heap.size ≤ (wq.alloc (Obj.cells #[] 45)).heap.size by simp)
        have hkc : (k : Int) ≤ (c : Int) := by omega
        have hk00 : (0 : Int) ≤ (k : Int) := by omega
        go_wp2_with (at_builtin; refine wpList_append_own _ rfl _ _ 26 rfl wq.heap.size 45 i0 (.agg #[.int .i64 0, .int .i64 0]) 2 16 Tryz.underlying26 hi hz0 hz1 hz2 rfl (by decide) _ _ _ rfl HO5.out a k c (spansCells (ps.take k)) rfl HL1.out HN1.out HE1.out HM1.out HY1.out HZ1.out ?_)
        intro v6 w6 hown6 hgrow6 _
        have HO6 := Lib.hid hown6
        have HB6 := Lib.hid (HBA.out.trans ((below_grown5 hgrow6 HZ1.out (own_base5 HO5.out)).mono HS5))
        have HS6 : wq.heap.size ≤ w6.heap.size := by have := (below_grown5 hgrow6 HZ1.out (own_base5 HO5.out)).size; simp at this; omega
        clear hown6 hgrow6 HN1 HL1 HE1
        obtain ⟨g60, g61, g62⟩ := HBOX.out w6 (by rw [hz]; exact HB6.out)
        have HO6a := Lib.hid (own_below5 HO6.out ((Below.refl _ w6).alloc (Nat.le_refl _) (Obj.cells #[.int .i64 x1, .int .i64 x2] 45)))
        have HB6a : Hid (Below (w.heap.size + 1) (w.alloc (.cells #[.int .i64 x1, .int .i64 x2] 45)) (w6.alloc (Obj.cells #[.int .i64 x1, .int .i64 x2] 45))) := HB6.out.alloc (by omega) _
        have HN2 := Lib.hid (news_two w6 w6.heap.size rfl 45 x1 x2)
        have HE2 := Lib.hid (show ∀ u ∈ [Value.int .i64 x1, .int .i64 x2], u.oneCell' = true from fun u hu => by simp at hu; rcases hu with rfl | rfl <;> rfl)
        have HM2 := Lib.hid (show k + 1 ≤ maxLen by unfold maxLen; omega)
        have HY2 := Lib.hid (show (k + 1) * 16 ≤ 140737488355328 by omega)
        have HZ2 := Lib.hid (show wq.heap.size ≤ (w6.alloc (Obj.cells #[.int .i64 x1, .int .i64 x2] 45)).heap.size by simp; omega)
        go_wp2_with (at_builtin; refine wpList_append_own _ rfl _ _ 26 rfl wq.heap.size 45 i0 (.agg #[.int .i64 0, .int .i64 0]) 2 16 Tryz.underlying26 hi hz0 hz1 hz2 rfl (by decide) _ _ _ rfl HO6a.out ⟨w6.heap.size, 0, none⟩ 1 1 [.int .i64 x1, .int .i64 x2] rfl rfl HN2.out HE2.out HM2.out HY2.out HZ2.out ?_)
        intro v7 w7 hown7 hgrow7 _
        have HO7 := Lib.hid hown7
        have HB7 := Lib.hid (HB6a.out.trans ((below_grown5 hgrow7 HZ2.out (own_base5 HO6a.out)).mono HS5))
        have HS7 : wq.heap.size ≤ w7.heap.size := by have := (below_grown5 hgrow7 HZ2.out (own_base5 HO6a.out)).size; simp at this; omega
        clear hown7 hgrow7 g60 g61 g62
        have HB7W := Lib.hid (HB0.out.trans (HB7.out.mono (by omega)))
        have HDN : Hid (spansCells (ps.drop k) = []) := by
          show _ = _
          rw [List.drop_eq_nil_of_le (by have := HN.out; omega)]
          rfl
        have HSN := Lib.hid (spansCells_snoc (ps.take k) (x1, x2))
        have HFINAL : Hid (∀ (v : Value) (w'' : World), w''.ownsRow wq.heap.size 45 2 v (k + 1) (spansCells (ps.take k) ++ [Value.int .i64 x1, .int .i64 x2]) → w''.ownsRow w.heap.size 45 2 v (putT (x1, x2) ps).length (spansCells (putT (x1, x2) ps))) := fun v w'' hh => by
          rw [HPUT.out k HFA.out]
          have e1 : (ps.take k ++ [(x1, x2)] ++ ps.drop k).length = k + 1 := by have := HN.out; simp; omega
          rw [e1, spansCells_append, HDN.out, List.append_nil, HSN.out]
          exact own_mono5 (base := wq.heap.size) hh (by omega)
        have HM3 := Lib.hid (show k + 1 + 0 ≤ maxLen by unfold maxLen; omega)
        have HY3 := Lib.hid (show (k + 1 + 0) * 16 ≤ 140737488355328 by omega)
        have HZ3 := Lib.hid HS7
        by_cases hck : c = k
        · subst hck
          go_wp2_with (at_builtin; refine wpList_append_own _ rfl _ _ 26 rfl wq.heap.size 45 i0 (.agg #[.int .i64 0, .int .i64 0]) 2 16 Tryz.underlying26 hi hz0 hz1 hz2 rfl (by decide) _ _ _ rfl HO7.out _ 0 _ [] rfl rfl (fun j u hj => by simp at hj) (fun u hu => by simp at hu) HM3.out HY3.out HZ3.out ?_)
          intro v8 w8 hown8 hgrow8 _
          have HO8 := Lib.hid hown8
          have HB8 := Lib.hid (HB7W.out.trans ((below_grown5 hgrow8 HZ3.out (own_base5 HO7.out)).mono (by omega)))
          clear hown8 hgrow8
          go_wp2
          go_ret
          exact ⟨_, rfl, HFINAL.out _ _ HO8.out, HB8.out⟩
        · skip
          go_wp2_with (at_builtin; refine wpList_append_own _ rfl _ _ 26 rfl wq.heap.size 45 i0 (.agg #[.int .i64 0, .int .i64 0]) 2 16 Tryz.underlying26 hi hz0 hz1 hz2 rfl (by decide) _ _ _ rfl HO7.out _ 0 _ [] rfl rfl (fun j u hj => by simp at hj) (fun u hu => by simp at hu) HM3.out HY3.out HZ3.out ?_)
          intro v8 w8 hown8 hgrow8 _
          have HO8 := Lib.hid hown8
          have HB8 := Lib.hid (HB7W.out.trans ((below_grown5 hgrow8 HZ3.out (own_base5 HO7.out)).mono (by omega)))
          clear hown8 hgrow8
          go_wp2
          go_ret
          exact ⟨_, rfl, HFINAL.out _ _ HO8.out, HB8.out⟩
set_option maxRecDepth 100000 in
set_option maxHeartbeats 2000000 in
theorem refSort_any (v : Value) (ps : List Sp) (w : World) (h : SpansAt w v ps) (hl : ps.length ≤ 1000) :
    Calls Tryz.prog 31 #[v] w (RetO w.heap.size 45 (sortT ps) w) := by
  obtain ⟨A, c, rfl, hc1, hlen, hc2, hat⟩ := h
  have HAT := Lib.hid hat
  have HP := Lib.hid (fun v qs x w h hl => refPutW_any v qs x w h hl)
  generalize hn : ps.length = n at *
  have HN := Lib.hid hn
  clear hat hn
  go_enter Tryz.func31, Tryz.ntmps31
  go_wp2_with fail
  go_loopg [3, 4] n (fun gg s3 s4 wr => ∃ i : Nat, i ≤ n ∧ gg = n - i ∧ s4 = .int .i64 i ∧ Below w.heap.size w wr ∧ wr.ownsRow w.heap.size 45 2 s3 (sortT (ps.take i)).length (spansCells (sortT (ps.take i))))
  case atStart => exact ⟨0, Nat.zero_le _, by omega, rfl, (Below.refl _ _).alloc (Nat.le_refl _) _, own_emptyW w 45⟩
  case round =>
    obtain ⟨i, hin, hgg, rfl, hbw, hsp⟩ := hrel
    have HG := Lib.hid hgg
    have HB := Lib.hid hbw
    have HO0 := Lib.hid hsp
    have HS := Lib.hid (spans_of_own hsp (by rw [sortT_length, List.length_take]; omega))
    have hsz := hbw.size
    clear hgg hbw hsp
    by_cases hlt : i < n
    · have hltz : (i : Int) < (n : Int) := by omega
      obtain ⟨b, off, hA, hbl, hcell⟩ := HAT.out (by omega)
      subst hA
      obtain ⟨y, hy⟩ := ex_at (xs := ps) (k := i) (by rw [HN.out]; exact hlt)
      obtain ⟨c1, c2⟩ := (hcell i y hy).keep HB.out hbl
      have HC := Lib.hid (HP.out _ _ y _ HS.out (by rw [sortT_length, List.length_take]; omega))
      have HE : Hid (putT y (sortT (ps.take i)) = sortT (ps.take (i + 1))) := by
        show _ = _
        rw [take_succ_of hy, sortT_snoc]
      have HL := Lib.hid (show (putT y (sortT (ps.take i))).length ≤ 100000 by rw [HE.out, sortT_length, List.length_take]; omega)
      obtain ⟨y1, y2⟩ := y
      simp only at c1 c2 HC
      clear hcell hy
      go_wp2_with (go_at_call 54; refine HC.out.mono ?_; rintro e w' ⟨v', rfl, hown, hb⟩)
      have HS2 := Lib.hid (own_mono5 hown hsz)
      have HB2 := Lib.hid (HB.out.trans (hb.mono hsz))
      clear hown hb
      rw [HE.out] at HS2
      go_wp2
      go_roundg (n - (i + 1))
      case measure => have := HG.out; omega
      case rel => exact ⟨i + 1, by omega, rfl, by go_num, HB2.out, HS2.out⟩
    · have hin' : i = n := by omega
      subst hin'
      have hltz : ¬ (i : Int) < (i : Int) := by omega
      rw [List.take_of_length_le (by rw [HN.out]; exact Nat.le_refl _)] at HO0
      go_wp2
      go_ret
      exact ⟨_, rfl, HO0.out, HB.out⟩
end Go.Proofs.YtiadnpipbocecaaGreat

/-
  A law on regions whose order is open: a load may be taken first where every operation that could come before it leaves the loaded cells as they are, though a store that waits for all loads writes them.
  Conditions: those of each law. The condition S is shown anew behind the operations that N names, not behind the others.
-/
namespace Go.Proofs.YtiadnpipbocecaaGreat
open Go

section
variable {P : Program} {ops : Array Oper} {Q : Exit → Act → World → Prop} {md : Region.Mode} {S1 S2 : World → Prop} {N : Nat → Bool}

/-- Whatever order is drawn; behind each operation the world meets S1, and an operation that N names keeps S2. -/
def wpAnyN (P : Program) (md : Region.Mode) (ops : Array Oper) (Q : Exit → Act → World → Prop) (S1 S2 : World → Prop) (N : Nat → Bool) : Nat → Array Bool → Act → World → Prop
  | 0, listed, a, w => Region.ready md ops listed = [] ∧ Q .normal a w
  | fuel + 1, listed, a, w =>
    (Region.ready md ops listed = [] → Q .normal a w) ∧
    ∀ i ∈ Region.ready md ops listed, wpOp P ops Q i (fun a' w' => (S1 w' ∧ (N i = true → S2 w → S2 w')) ∧ wpAnyN P md ops Q S1 S2 N fuel (listed.setIfInBounds i true) a' w') a w

theorem wpAny_of_N : ∀ (fuel : Nat) (listed : Array Bool) (a : Act) (w : World), wpAnyN P md ops Q S1 S2 N fuel listed a w → wpAny P md ops Q fuel listed a w
  | 0, _, _, _, h => h
  | fuel + 1, _, _, _, h => ⟨h.1, fun i hi => wpOp_mono (fun _ _ h' => wpAny_of_N fuel _ _ _ h'.2) (h.2 i hi)⟩

/-- What a taken operation may lean on: S1, and S2 where 'b2' says so. -/
def Leans (S1 S2 : World → Prop) (b2 : Bool) (w : World) : Prop := S1 w ∧ (b2 = true → S2 w)

/-- Operation i may be taken first: every other one that has not come up waits for it, or is apart from it and keeps what it leans on. -/
theorem wpAnyN_first {i : Nat} {oi : Oper} {v : Value} {b2 : Bool} (hi : ops[i]? = some oi) (hsel : ∀ (j : Nat) (o : Oper) cs b, ops[j]? = some o → o.op ≠ .select cs b)
    (hQ : ∀ c a w, Q (.panic c) (a.put oi.dst v) w → Q (.panic c) a w) :
    ∀ (fuel : Nat) (listed : Array Bool) (a : Act) (w : World),
      (∀ j oj, ops[j]? = some oj → j ≠ i → listed.getD j true = false → (∀ e ∈ oj.after, Region.binds md e = true → e.on ≠ i) → oi.apart ops oj = true ∧ (b2 = true → N j = true)) →
      i ∈ Region.ready md ops listed → YieldsIf P ops (Leans S1 S2 b2) oi v a → Leans S1 S2 b2 w →
      wpAnyN P md ops Q S1 S2 N fuel (listed.setIfInBounds i true) (a.put oi.dst v) w → wpAnyN P md ops Q S1 S2 N (fuel + 1) listed a w := by
  intro fuel
  induction fuel with
  | zero =>
    intro listed a w _ hr hy hS H
    refine ⟨fun h => (by rw [h] at hr; cases hr), fun j hj => ?_⟩
    by_cases hji : j = i
    · subst hji; exact hy.wpOp hi hS ⟨⟨hS.1, fun _ h => h⟩, H⟩
    · have := ready_mono hj hji
      rw [H.1] at this
      cases this
  | succ fuel ih =>
    intro listed a w hfree hr hy hS H
    refine ⟨fun h => (by rw [h] at hr; cases hr), fun j hj => ?_⟩
    by_cases hji : j = i
    · subst hji; exact hy.wpOp hi hS ⟨⟨hS.1, fun _ h => h⟩, H⟩
    · have h1 := H.2 j (ready_mono hj hji)
      obtain ⟨hjun, oj, hoj, hall⟩ := mem_ready.1 hj
      have hnot : ∀ e ∈ oj.after, Region.binds md e = true → e.on ≠ i := fun e he hb heq => by
        have h1 := hall e he hb
        have h0 := (mem_ready.1 hr).1
        rw [heq] at h1
        rcases Nat.lt_or_ge i listed.size with h' | h'
        · simp [h'] at h0 h1; rw [h0] at h1; cases h1
        · simp [Array.getElem?_eq_none h'] at h1
      obtain ⟨hap, hN⟩ := hfree j oj hoj hji hjun hnot
      have h2 := wpOp_putIf hoj hap (fun cs b => hsel i oi cs b hi) (fun cs b => hsel j oj cs b hoj) hQ hy h1
      have hfree' : ∀ k ok, ops[k]? = some ok → k ≠ i → (listed.setIfInBounds j true).getD k true = false →
          (∀ e ∈ ok.after, Region.binds md e = true → e.on ≠ i) → oi.apart ops ok = true ∧ (b2 = true → N k = true) := fun k ok hk hki hun hno => by
        refine hfree k ok hk hki ?_ hno
        by_cases hjk : j = k
        · subst hjk; exact hjun
        · rw [getD_set_ne true hjk] at hun; exact hun
      refine wpOp_mono (fun a' w' h3 => ⟨h3.2.1, ih (listed.setIfInBounds j true) a' w' hfree' (ready_mono hr (Ne.symm hji)) h3.1 ⟨h3.2.1.1, fun hb => h3.2.1.2 (hN hb) (hS.2 hb)⟩ ?_⟩) h2
      rw [Array.setIfInBounds_comm _ _ hji]
      exact h3.2.2

/-- The side condition as a Bool. -/
def freeOrd (md : Region.Mode) (ops : Array Oper) (N : Nat → Bool) (b2 : Bool) (listed : Array Bool) (i : Nat) : Bool :=
  match ops[i]? with
  | none => false
  | some oi => (List.range ops.size).all fun j => j == i || listed.getD j true || match ops[j]? with
      | some oj => oj.after.any (fun e => Region.binds md e && e.on == i) || (oi.apart ops oj && (!b2 || N j))
      | none => true

theorem freeOrd_spec {i : Nat} {oi : Oper} {b2 : Bool} {listed : Array Bool} (hi : ops[i]? = some oi) (h : freeOrd md ops N b2 listed i = true) (j : Nat) (oj : Oper)
    (hj : ops[j]? = some oj) (hne : j ≠ i) (hun : listed.getD j true = false) (hno : ∀ e ∈ oj.after, Region.binds md e = true → e.on ≠ i) :
    oi.apart ops oj = true ∧ (b2 = true → N j = true) := by
  simp only [freeOrd, hi, List.all_eq_true, List.mem_range] at h
  have h1 := h j (Array.getElem?_eq_some_iff.1 hj).1
  simp only [hj, Bool.or_eq_true, beq_iff_eq, hne, false_or, hun, Bool.false_eq_true, Bool.and_eq_true] at h1
  rcases h1 with h1 | h1
  · obtain ⟨e, he, hb⟩ := Array.any_eq_true'.1 h1
    simp only [Bool.and_eq_true, beq_iff_eq] at hb
    exact absurd hb.2 (hno e he hb.1)
  · refine ⟨h1.1, fun hb => ?_⟩
    rcases h1.2 with h2 | h2
    · rw [hb] at h2; cases h2
    · exact h2

theorem wpAnyN_take {i : Nat} {oi : Oper} {v : Value} {fuel : Nat} {listed : Array Bool} {a : Act} {w : World} (b2 : Bool) (hi : ops[i]? = some oi)
    (hs : Region.noSelect ops = true) (hf : freeOrd md ops N b2 listed i = true) (hr : (Region.ready md ops listed).contains i = true)
    (hQ : ∀ c a w, Q (.panic c) (a.put oi.dst v) w → Q (.panic c) a w) (hy : YieldsIf P ops (Leans S1 S2 b2) oi v a) (hS : Leans S1 S2 b2 w)
    (h : wpAnyN P md ops Q S1 S2 N fuel (listed.setIfInBounds i true) (a.put oi.dst v) w) : wpAnyN P md ops Q S1 S2 N (fuel + 1) listed a w :=
  wpAnyN_first hi (Region.noSelect_spec hs) hQ fuel listed a w (freeOrd_spec hi hf) (by simpa using hr) hy hS h

/-- One alone may come up. -/
theorem wpAnyN_step {i : Nat} {o : Oper} {fuel : Nat} {listed : Array Bool} {a : Act} {w : World} (hr : Region.ready md ops listed = [i]) (ho : ops[i]? = some o) (hw : Region.wanted o (yielded ops a.tmps) = true)
    (h : ∀ K' : Act → World → Prop, Shut (∀ a w', S1 w' → (N i = true → S2 w → S2 w') → wpAnyN P md ops Q S1 S2 N fuel (listed.setIfInBounds i true) a w' → K' a w') → Oper.wp P o a w K' Q) :
    wpAnyN P md ops Q S1 S2 N (fuel + 1) listed a w :=
  ⟨fun h0 => absurd (hr.symm.trans h0) (by intro e; cases e), fun j hj => by
    rw [hr] at hj
    obtain rfl := List.mem_singleton.1 hj
    exact wpOp_step ho (fun K' hK => by
      rw [if_pos hw]
      exact h K' (fun a w h1 h2 hW => hK a w ⟨⟨h1, h2⟩, hW⟩))⟩

theorem wpAnyN_done {listed : Array Bool} {a : Act} {w : World} (hr : Region.ready md ops listed = []) (h : Q .normal a w) : wpAnyN P md ops Q S1 S2 N 0 listed a w := ⟨hr, h⟩

/-- Two may come up. -/
theorem wpAnyN_two {i j : Nat} {oi oj : Oper} {fuel : Nat} {listed : Array Bool} {a : Act} {w : World} (hr : Region.ready md ops listed = [i, j]) (hi : ops[i]? = some oi) (hj : ops[j]? = some oj)
    (wi : Region.wanted oi (yielded ops a.tmps) = true) (wj : Region.wanted oj (yielded ops a.tmps) = true)
    (h1 : ∀ K' : Act → World → Prop, Shut (∀ a w', S1 w' → (N i = true → S2 w → S2 w') → wpAnyN P md ops Q S1 S2 N fuel (listed.setIfInBounds i true) a w' → K' a w') → Oper.wp P oi a w K' Q)
    (h2 : ∀ K' : Act → World → Prop, Shut (∀ a w', S1 w' → (N j = true → S2 w → S2 w') → wpAnyN P md ops Q S1 S2 N fuel (listed.setIfInBounds j true) a w' → K' a w') → Oper.wp P oj a w K' Q) :
    wpAnyN P md ops Q S1 S2 N (fuel + 1) listed a w :=
  ⟨fun h0 => absurd (hr.symm.trans h0) (by intro e; cases e), fun k hk => by
    rw [hr] at hk
    rcases List.mem_cons.1 hk with rfl | hk
    · exact wpOp_step hi (fun K' hK => by
        rw [if_pos wi]
        exact h1 K' (fun a w h1 h2 hW => hK a w ⟨⟨h1, h2⟩, hW⟩))
    · obtain rfl := List.mem_singleton.1 hk
      exact wpOp_step hj (fun K' hK => by
        rw [if_pos wj]
        exact h2 K' (fun a w h1 h2 hW => hK a w ⟨⟨h1, h2⟩, hW⟩))⟩

theorem wpOp_mono' {i : Nat} {K K' : Act → World → Prop} {a : Act} {w : World} (h : ∀ a w, K a w → K' a w) (hw : wpOp P ops Q i K a w) : wpOp P ops Q i K' a w := wpOp_mono h hw
/-- What is kept may be asked for more sharply from here on. -/
theorem wpAnyN_sharp {S1' : World → Prop} (h : ∀ w, S1' w → S1 w) : ∀ (fuel : Nat) (listed : Array Bool) (a : Act) (w : World), wpAnyN P md ops Q S1' S2 N fuel listed a w → wpAnyN P md ops Q S1 S2 N fuel listed a w
  | 0, _, _, _, hw => hw
  | fuel + 1, _, _, _, hw => ⟨hw.1, fun i hi => wpOp_mono (fun _ _ h' => ⟨⟨h _ h'.1.1, h'.1.2⟩, wpAnyN_sharp h fuel _ _ _ h'.2⟩) (hw.2 i hi)⟩

theorem wp_region_N {id : Nat} {a : Act} {w : World} (hm : P.follows .mixedOrders = true)
    (h : wpAnyN P .any ops Q S1 S2 N ops.size (Array.replicate ops.size false) a w.drew) : (Code.region id ops true).wp P Q a w :=
  wp_region_any hm (wpAny_of_N _ _ _ _ h)
end
end Go.Proofs.YtiadnpipbocecaaGreat
