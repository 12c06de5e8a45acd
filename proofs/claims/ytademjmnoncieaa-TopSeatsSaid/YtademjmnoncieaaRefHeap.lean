/-
  The document's Remove, Put, ahead, Min, Key.
  Conditions: what the slices read as; the numbers are words.
-/
import Derived.Test.YtademjmnoncieaaItems
set_option linter.unusedVariables false
namespace Go.Proofs.Ytademjmnoncieaa
open Go.RowKit

theorem ex_at6 {α : Type} {xs : List α} {k : Nat} (h : k < xs.length) : ∃ x, xs[k]? = some x := ⟨xs[k], List.getElem?_eq_getElem h⟩
theorem take_snoc {α : Type} {xs : List α} {k : Nat} {x : α} (h : xs[k]? = some x) : xs.take (k + 1) = xs.take k ++ [x] := by
  rw [List.take_add_one, h]; rfl

theorem own_mono6 {w : World} {base base' e size n : Nat} {v : Value} {xs : List Value} (h : w.ownsRow base e size v n xs) (hb : base' ≤ base) : w.ownsRow base' e size v n xs := by
  obtain ⟨h1, h2⟩ := h
  refine ⟨h1, ?_⟩
  rcases h2 with h2 | ⟨g, cap, cur, hv, hg, r⟩
  · exact .inl h2
  · exact .inr ⟨g, cap, cur, hv, Nat.le_trans hb hg, r⟩

def RemRel (its : List It) (id : Int) (w : World) (g : Nat) (s6 s7 : Value) (wr : World) : Prop :=
  ∃ k : Nat, k ≤ its.length ∧ g = its.length - k ∧ s7 = .int .i64 k ∧ Below w.heap.size w wr ∧
    wr.ownsRow w.heap.size 34 3 s6 (dropI (its.take k) id).length (itemCells (dropI (its.take k) id))

set_option maxRecDepth 100000 in
set_option maxHeartbeats 4000000 in
theorem refRemove_any (its : List It) (id : Int) (v : Value) (w : World) (h : ItemsAt w v its) :
    Calls Try.prog 11 #[v, .int .i64 id] w (RetIt (dropI its id) (fun v => .tuple #[v, .bool (decide ((dropI its id).length < its.length))]) w) := by
  obtain ⟨i0, hi, hz0, hz1, hz2⟩ := info_parts Try.infoItem
  obtain ⟨A, c, rfl, h2, h3, h4, h5⟩ := h
  have HAT := Lib.hid h5
  clear h5
  obtain ⟨n, hn⟩ : ∃ n, its.length = n := ⟨_, rfl⟩
  have HN := Lib.hid hn
  have HN' := Lib.hid hn
  rw [hn] at h2 h3 ⊢
  clear hn
  go_enter Try.func11, Try.ntmps11
  go_wp2_with fail
  go_loopg [6, 7] n (fun g s6 s7 wr => RemRel its id w g s6 s7 wr)
  case atStart =>
    exact ⟨0, Nat.zero_le _, by rw [HN.out]; rfl, rfl, (Below.refl _ _).alloc (Nat.le_refl _) _, ⟨rfl, .inr ⟨w.heap.size, 0, #[], rfl, Nat.le_refl _, heap_alloc_new w _, Nat.le_refl _, Nat.zero_le _, rfl, rfl⟩⟩⟩
  case round =>
    obtain ⟨k, hk, hg, rfl, hbw, hown⟩ := hrel
    rw [HN.out] at hk hg
    have HG := Lib.hid hg
    have HB := Lib.hid hbw
    have HO := Lib.hid hown
    clear hg hbw hown
    have hrl : (dropI (its.take k) id).length ≤ k := Nat.le_trans (dropI_length _ _) (by rw [List.length_take]; omega)
    obtain ⟨A0, c0, rfl⟩ := own_form6 HO.out
    have hsz := HB.out.size
    by_cases hlt : k < n
    · have z1 : (k : Int) < (n : Int) := by omega
      obtain ⟨b, off, hA, hbl, hcell⟩ := HAT.out (by rw [HN.out]; omega)
      subst hA
      obtain ⟨y, hy⟩ := ex_at6 (xs := its) (k := k) (by rw [HN.out]; exact hlt)
      obtain ⟨c1, c2, c3⟩ := hcell k y hy
      have hc1 := (HB.out.cell (p := ⟨b, off + k * 3, none⟩) hbl).trans c1
      have hc2 := (HB.out.cell (p := ⟨b, off + k * 3 + 1, none⟩) hbl).trans c2
      have hc3 := (HB.out.cell (p := ⟨b, off + k * 3 + 2, none⟩) hbl).trans c3
      have HT := Lib.hid (take_snoc hy)
      clear c1 c2 c3 hcell hy
      obtain ⟨y1, y2, y3⟩ := y
      simp only at hc1 hc2 hc3
      by_cases he : (y1 : Int) = id
      · have HD := Lib.hid (dropI_snoc_no (its := its.take k) (it := (y1, y2, y3)) (id := id) he)
        subst he
        generalize dropI (its.take k) (y1 : Int) = row at *
        generalize hrn : row.length = m at *
        go_wp2_with fail
        go_roundg (n - (k + 1))
        case measure => have := HG.out; omega
        case rel =>
          refine ⟨k + 1, by rw [HN.out]; omega, by rw [HN.out], by go_num, HB.out, ?_⟩
          rw [HT.out, HD.out, hrn]
          exact HO.out
      · have HD := Lib.hid (dropI_snoc_yes (its := its.take k) (it := (y1, y2, y3)) (id := id) he)
        have he' : ((y1 : Int) != id) = true := by simp; exact he
        have hec : ¬ (y1 : Int) = id := he
        generalize dropI (its.take k) id = row at *
        obtain ⟨m, hrn⟩ : ∃ m, row.length = m := ⟨_, rfl⟩
        rw [hrn] at hrl
        have HO2 := HO.out
        rw [hrn] at HO2 ⊢
        have HOM := Lib.hid HO2
        have HRN := Lib.hid hrn
        clear HO2 hrn he HO
        go_wp2_with (at_builtin; refine wpList_append_own _ rfl _ _ 28 rfl w.heap.size 34 i0 (.agg #[.int .i64 0, .int .u64 0, .int .u64 0]) 3 24 Try.underlying28 hi hz0 hz1 hz2 rfl (by decide) _ _ _ rfl (HOM.out.alloc _) ⟨wr.heap.size, 0, none⟩ 1 1 [.int .i64 y1, .int .u64 y2, .int .u64 y3] rfl rfl ?c1 ?c2 ?c3 ?c4 ?c5 ?_)
        case c1 => exact news_three _ _ rfl _ _ _ _
        case c2 => intro u hu; simp at hu; rcases hu with rfl | rfl | rfl <;> rfl
        case c3 => unfold maxLen; omega
        case c4 => omega
        case c5 => simp; omega
        intro v2 w2 hown2 hgrow _
        have HB2 := Lib.hid ((HB.out.alloc hsz _).trans (below_grown6 hgrow (by simp; omega) (own_base6 HOM.out)))
        have HO2 := Lib.hid hown2
        clear hown2 hgrow
        go_wp2_with fail
        go_roundg (n - (k + 1))
        case measure => have := HG.out; omega
        case rel =>
          refine ⟨k + 1, by rw [HN.out]; omega, by rw [HN.out], by go_num, HB2.out, ?_⟩
          rw [HT.out, HD.out, itemCells_snoc, List.length_append, HRN.out]
          exact HO2.out
    · have hk2 : k = n := by omega
      subst hk2
      have e : its.take k = its := List.take_of_length_le (by rw [HN.out]; exact Nat.le_refl _)
      have HO3 := HO.out
      rw [e] at HO3 hrl
      simp only [e]
      have HO4 := Lib.hid HO3
      clear HO3 HO e
      have hz : ((dropI its id).length : Int) ≤ (k : Int) := by omega
      obtain ⟨row, hrow⟩ : ∃ r, dropI its id = r := ⟨_, rfl⟩
      obtain ⟨m, hrn⟩ : ∃ m, row.length = m := ⟨_, rfl⟩
      rw [hrow] at HO4 hrl hz
      rw [hrn] at HO4 hrl hz
      have HR := Lib.hid hrow
      have HRN := Lib.hid hrn
      clear hrow hrn
      go_wp2_with fail
      go_returns
      exact ⟨.slice A0 m c0, by rw [HR.out, HRN.out]; rfl, by rw [HR.out, HRN.out]; exact HO4.out, HB.out⟩

set_option maxRecDepth 100000 in
set_option maxHeartbeats 4000000 in
theorem refPut_any (its : List It) (x nu de : Nat) (v : Value) (w : World) (h : ItemsAt w v its) (hl : its.length + 1 ≤ 100000) :
    Calls Try.prog 9 #[v, .agg #[.int .i64 x, .int .u64 nu, .int .u64 de]] w (RetIt (dropI its x ++ [(x, nu, de)]) id w) := by
  obtain ⟨i0, hi, hz0, hz1, hz2⟩ := info_parts Try.infoItem
  have H0 : ItemsAt (w.alloc (.cells #[.int .i64 x, .int .u64 nu, .int .u64 de] 34)) v its := h.below ((Below.refl _ _).alloc (Nat.le_refl _) _)
  have HR := Lib.hid (refRemove_any its x v _ H0)
  have hdl := dropI_length its x
  clear h H0
  obtain ⟨row, hrow⟩ : ∃ r, dropI its x = r := ⟨_, rfl⟩
  obtain ⟨m, hrn⟩ : ∃ m, row.length = m := ⟨_, rfl⟩
  have HROW := Lib.hid hrow
  have HRN := Lib.hid hrn
  rw [hrow, hrn] at hdl
  rw [hrow] at HR ⊢
  clear hrow hrn
  go_enter Try.func9, Try.ntmps9
  go_wp2_with fail
  refine HR.out.mono ?_
  rintro e w1 ⟨v1, rfl, hown, hb1⟩
  obtain ⟨A1, c1, rfl⟩ := own_form6 hown
  have hb1' := hb1.mono (show w.heap.size ≤ _ from by simp)
  have hc0 := hb1.cell (p := ⟨w.heap.size, 0, none⟩) (by simp)
  have hc1 := hb1.cell (p := ⟨w.heap.size, 1, none⟩) (by simp)
  have hc2 := hb1.cell (p := ⟨w.heap.size, 2, none⟩) (by simp)
  rw [World.cell?_alloc_new] at hc0 hc1 hc2
  simp only [List.getElem?_toArray, List.getElem?_cons_zero, List.getElem?_cons_succ] at hc0 hc1 hc2
  rw [HRN.out] at hown ⊢
  have HB1 := Lib.hid (((Below.refl w.heap.size w).alloc (Nat.le_refl _) _).trans hb1')
  have hown' := hown
  rw [World.size_alloc] at hown'
  have HO := Lib.hid hown'
  have HSZ := Lib.hid hb1.size
  have hsz : w.heap.size + 1 ≤ w1.heap.size := by have := hb1.size; simpa using this
  have HOB := Lib.hid (show ∀ k, (Value.slice A1 m c1).ownBlock = some k → w.heap.size ≤ k from fun k hk => by have := own_base6 hown k hk; simp at this; omega)
  clear hown hown' hb1 hb1'
  go_wp2_with (at_builtin; refine wpList_append_own _ rfl _ _ 28 rfl (w.heap.size + 1) 34 i0 (.agg #[.int .i64 0, .int .u64 0, .int .u64 0]) 3 24 Try.underlying28 hi hz0 hz1 hz2 rfl (by decide) _ _ _ rfl (HO.out.alloc _) ⟨w1.heap.size, 0, none⟩ 1 1 [.int .i64 x, .int .u64 nu, .int .u64 de] rfl rfl ?c1 ?c2 ?c3 ?c4 ?c5 ?_)
  case c1 => exact news_three _ _ rfl _ _ _ _
  case c2 => intro u hu; simp at hu; rcases hu with rfl | rfl | rfl <;> rfl
  case c3 => unfold maxLen; omega
  case c4 => omega
  case c5 => simp; omega
  intro v2 w2 hown2 hgrow _
  have HB2 := Lib.hid ((HB1.out.alloc (by omega) _).trans (below_grown6 hgrow (by simp; omega) HOB.out))
  have HO2 := Lib.hid hown2
  clear hown2 hgrow
  go_wp2_with fail
  go_returns
  refine ⟨_, rfl, ?_, HB2.out⟩
  rw [itemCells_snoc, List.length_append, HRN.out]
  exact own_mono6 HO2.out (by omega)
end Go.Proofs.Ytademjmnoncieaa
