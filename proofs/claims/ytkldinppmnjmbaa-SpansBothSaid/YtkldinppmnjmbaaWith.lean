/-
  The document's list of ends: a number put into a rising list.
  Conditions: none.
-/
import Derived.Test.YtkldinppmnjmbaaSpans
set_option linter.unusedVariables false
namespace Go.Proofs.Ytkldinppmnjmbaa
open Go.RowKit

def withT : List Int → Int → List Int
  | [], x => [x]
  | y :: r, x => if y < x then y :: withT r x else if y = x then y :: r else x :: y :: r
theorem withT_at : ∀ (l : List Int) (k : Nat) (x : Int), k ≤ l.length → (∀ (j : Nat) (t : Int), j < k → l[j]? = some t → t < x) → (∀ t, l[k]? = some t → x ≤ t) →
    withT l x = if l[k]? = some x then l else l.take k ++ x :: l.drop k
  | [], k, x, hk, _, _ => by
    have : k = 0 := by simpa using hk
    subst this
    rfl
  | y :: r, 0, x, _, _, h => by
    have hy := h y rfl
    unfold withT
    rw [if_neg (by omega)]
    by_cases e : y = x
    · subst e; simp
    · rw [if_neg e, if_neg (by simpa using e)]; rfl
  | y :: r, k + 1, x, hk, hlt, h => by
    have hy := hlt 0 y (by omega) rfl
    unfold withT
    rw [if_pos hy, withT_at r k x (by simpa using hk) (fun j t hj ht => hlt (j + 1) t (by omega) (by simpa using ht)) (fun t ht => h t (by simpa using ht))]
    simp only [List.getElem?_cons_succ, List.take_succ_cons, List.drop_succ_cons]
    by_cases e : r[k]? = some x
    · rw [if_pos e, if_pos e]
    · rw [if_neg e, if_neg e]; rfl
theorem mem_withT : ∀ (l : List Int) (x y : Int), y ∈ withT l x ↔ y ∈ l ∨ y = x
  | [], x, y => by simp [withT]
  | z :: r, x, y => by
    unfold withT
    by_cases h : z < x
    · rw [if_pos h, List.mem_cons, mem_withT r x y, List.mem_cons, or_assoc]
    · rw [if_neg h]
      by_cases e : z = x
      · subst e
        rw [if_pos rfl]
        simp only [List.mem_cons]
        constructor
        · exact Or.inl
        · rintro (h | h)
          · exact h
          · exact .inl h
      · rw [if_neg e]
        simp only [List.mem_cons]
        constructor
        · rintro (h | h | h)
          · exact .inr h
          · exact .inl (.inl h)
          · exact .inl (.inr h)
        · rintro ((h | h) | h)
          · exact .inr (.inl h)
          · exact .inr (.inr h)
          · exact .inl h
theorem withT_rises : ∀ (l : List Int) (x : Int), l.Pairwise (· < ·) → (withT l x).Pairwise (· < ·)
  | [], x, _ => List.pairwise_singleton _ _
  | z :: r, x, h => by
    obtain ⟨h1, h2⟩ := List.pairwise_cons.1 h
    unfold withT
    by_cases hz : z < x
    · rw [if_pos hz]
      refine List.pairwise_cons.2 ⟨fun y hy => ?_, withT_rises r x h2⟩
      rcases (mem_withT r x y).1 hy with hy | rfl
      · exact h1 y hy
      · exact hz
    · rw [if_neg hz]
      by_cases e : z = x
      · rw [if_pos e]; exact h
      · rw [if_neg e]
        refine List.pairwise_cons.2 ⟨fun y hy => ?_, h⟩
        rcases List.mem_cons.1 hy with rfl | hy
        · omega
        · have := h1 y hy; omega
theorem withT_length : ∀ (l : List Int) (x : Int), (withT l x).length ≤ l.length + 1
  | [], x => by simp [withT]
  | z :: r, x => by
    unfold withT
    by_cases hz : z < x
    · rw [if_pos hz]; have := withT_length r x; simp; omega
    · rw [if_neg hz]
      by_cases e : z = x
      · rw [if_pos e]; omega
      · rw [if_neg e]; simp

/-- The slice value reads as ints; it is not nil. -/
def IntsAt (W : World) (v : Value) (xs : List Int) : Prop :=
  ∃ b off c, v = .slice (some ⟨b, off, none⟩) xs.length c ∧ xs.length ≤ c ∧ xs.length ≤ 100000 ∧ c ≤ 9223372036854775807 ∧ b < W.heap.size ∧ ∀ (j : Nat) (x : Int), xs[j]? = some x → W.cell? ⟨b, off + j, none⟩ = some (.int .i64 x)
theorem IntsAt.keep {W W' : World} {v : Value} {xs : List Int} (h : IntsAt W v xs) (hb : Below W.heap.size W W') : IntsAt W' v xs := by
  obtain ⟨b, off, c, h1, h2, h3, h4, h5, h6⟩ := h
  exact ⟨b, off, c, h1, h2, h3, h4, Nat.lt_of_lt_of_le h5 hb.size, fun j x hx => (hb.cell (p := ⟨b, off + j, none⟩) h5).trans (h6 j x hx)⟩
theorem IntsAt.len {W : World} {v : Value} {xs : List Int} (h : IntsAt W v xs) : xs.length ≤ 100000 := by obtain ⟨_, _, _, _, _, h, _⟩ := h; exact h
/-- The slice lies from block B on. -/
def FromB (B : Nat) (v : Value) : Prop := ∀ k, v.ownBlock = some k → B ≤ k
/-- Ints that a call answers. -/
def RetI (B : Nat) (xs : List Int) (w : World) (e : Ending) (w' : World) : Prop := ∃ v, e = .returned v ∧ IntsAt w' v xs ∧ FromB B v ∧ Below w.heap.size w w'
theorem ints_of_own {W : World} {base e : Nat} {v : Value} {xs : List Int} (h : W.ownsRow base e 1 v xs.length (xs.map (Value.int .i64))) (hp : 0 < xs.length) (hl : xs.length ≤ 100000) : IntsAt W v xs := by
  obtain ⟨h1, h2⟩ := h
  rcases h2 with ⟨rfl, h0⟩ | ⟨g, cap, cur, rfl, hg, hh, hn, hc, hs, ht⟩
  · omega
  · refine ⟨g, 0, cap, rfl, hn, hl, by unfold maxLen at hc; omega, (Array.getElem?_eq_some_iff.1 hh).1, fun j x hx => ?_⟩
    rw [Nat.zero_add, cell_of_row W g j _ _ (0, 0) hh]
    have hj : j < xs.length := (List.getElem?_eq_some_iff.1 hx).1
    have : (cur.toList.take (xs.length * 1))[j]? = some (.int .i64 x) := by rw [ht, List.getElem?_map, hx]; rfl
    rw [List.getElem?_take, if_pos (by omega)] at this
    rw [← this]
    simp
theorem intCells_one (xs : List Int) : ∀ u ∈ xs.map (Value.int .i64), u.oneCell' = true := by
  intro u hu
  obtain ⟨x, _, rfl⟩ := List.mem_map.1 hu
  rfl

/-- What the three appends put together. -/
theorem glue (l : List Int) (k : Nat) (x : Int) : ((l.take k).map (Value.int .i64) ++ [Value.int .i64 x]) ++ (l.drop k).map (Value.int .i64) = (l.take k ++ x :: l.drop k).map (Value.int .i64) := by simp

set_option maxRecDepth 100000 in
set_option maxHeartbeats 2000000 in
theorem with_any (B : Nat) (v : Value) (l : List Int) (x : Int) (w : World) (h : IntsAt w v l) (hf : FromB B v) (hBw : B ≤ w.heap.size) (hl : l.length ≤ 90000) :
    Calls Try.prog 38 #[v, .int .i64 x] w (RetI B (withT l x) w) := by
  obtain ⟨i0, hi, hz0, hz1, hz2⟩ := info_parts Try.infoInt
  have HIA := Lib.hid h
  have HFB := Lib.hid hf
  obtain ⟨b, off, c, rfl, hc1, _, hc2, hbl, hcell⟩ := h
  have HAT := Lib.hid hcell
  generalize hn : l.length = n at *
  have HN := Lib.hid hn
  clear hcell hn hf
  go_enter Try.func38, Try.ntmps38
  go_wp2_with fail
  go_loopg [5] n (fun g s wr => ∃ k : Nat, k ≤ n ∧ g = n - k ∧ s = .int .i64 k ∧ wr = w ∧ ∀ (j : Nat) (t : Int), j < k → l[j]? = some t → t < x)
  case atStart => exact ⟨0, Nat.zero_le _, by omega, rfl, rfl, fun j t hj => absurd hj (Nat.not_lt_zero _)⟩
  case round =>
    obtain ⟨k, hk, hg, rfl, hw, hall⟩ := hrel
    subst hw
    have HG := Lib.hid hg
    have HALL := Lib.hid hall
    clear hg hall
    by_cases hlt : k < n
    · have hltz : (k : Int) < (n : Int) := by omega
      have hltb : decide ((k : Int) < (n : Int)) = true := decide_eq_true hltz
      obtain ⟨y, hy⟩ := ex_at (xs := l) (k := k) (by rw [HN.out]; exact hlt)
      have hcy := HAT.out k y hy
      have HY := Lib.hid hy
      clear hy
      by_cases hyx : y < x
      · have hyb : decide (y < x) = true := decide_eq_true hyx
        have HYX := Lib.hid hyx
        clear hyx
        go_wp2_with fail
        go_roundg (n - (k + 1))
        case measure => have := HG.out; omega
        case rel =>
          refine ⟨k + 1, by omega, rfl, by go_num, rfl, fun j t hj ht => ?_⟩
          by_cases e : j = k
          · subst e
            rw [HY.out] at ht
            rw [← Option.some.inj ht]
            exact HYX.out
          · exact HALL.out j t (by omega) ht
      · have hyb : decide (y < x) = false := decide_eq_false hyx
        by_cases hxe : y = x
        · subst hxe
          have HW := Lib.hid (show withT l y = l by rw [withT_at l k y (by rw [HN.out]; exact hk) HALL.out (fun t ht => by rw [HY.out] at ht; cases ht; exact Int.le_refl _), if_pos HY.out])
          clear hyx
          go_wp2
          go_ret
          exact ⟨_, rfl, by rw [HW.out]; exact HIA.out, HFB.out, Below.refl _ _⟩
        · have hxb : (y == x) = false := by simpa using hxe
          have HW := Lib.hid (show withT l x = l.take k ++ x :: l.drop k by rw [withT_at l k x (by rw [HN.out]; exact hk) HALL.out (fun t ht => by rw [HY.out] at ht; cases ht; omega), if_neg (by rw [HY.out]; simpa using hxe)])
          have hkc : (k : Int) ≤ (c : Int) := by omega
          clear hyx hxe
          obtain ⟨n1, hn1⟩ : ∃ n1, n1 = (l.take k).map (Value.int .i64) := ⟨_, rfl⟩
          obtain ⟨n3, hn3⟩ : ∃ n3, n3 = (l.drop k).map (Value.int .i64) := ⟨_, rfl⟩
          have HL1 := Lib.hid (show n1.length = k * 1 by rw [hn1, List.length_map, List.length_take]; have := HN.out; omega)
          have HL3 := Lib.hid (show n3.length = (n - k) * 1 by rw [hn3, List.length_map, List.length_drop]; have := HN.out; omega)
          have HG1 : Hid (∀ j u, n1[j]? = some u → wr.cell? ⟨b, off + j, none⟩ = some u) := by
            intro j u hj
            rw [hn1, List.getElem?_map] at hj
            obtain ⟨t, ht, rfl⟩ := Option.map_eq_some_iff.1 hj
            refine HAT.out j t ?_
            rw [List.getElem?_take] at ht
            by_cases e : j < k
            · rwa [if_pos e] at ht
            · rw [if_neg e] at ht; cases ht
          have HG3 : Hid (∀ j u, n3[j]? = some u → wr.cell? ⟨b, off + k + j, none⟩ = some u) := by
            intro j u hj
            rw [hn3, List.getElem?_map] at hj
            obtain ⟨t, ht, rfl⟩ := Option.map_eq_some_iff.1 hj
            rw [Nat.add_assoc]
            exact HAT.out (k + j) t (by rwa [List.getElem?_drop] at ht)
          have HU1 := Lib.hid (show ∀ u ∈ n1, u.oneCell' = true by rw [hn1]; exact intCells_one _)
          have HU3 := Lib.hid (show ∀ u ∈ n3, u.oneCell' = true by rw [hn3]; exact intCells_one _)
          have HGL := Lib.hid (show (n1 ++ [Value.int .i64 x]) ++ n3 = (l.take k ++ x :: l.drop k).map (Value.int .i64) by rw [hn1, hn3]; exact glue l k x)
          have HO0 : Hid ((wr.alloc (Obj.cells #[] 3)).ownsRow wr.heap.size 3 1 (.slice (some ⟨wr.heap.size, 0, none⟩) 0 0) 0 []) :=
            ⟨rfl, .inr ⟨wr.heap.size, 0, #[], rfl, Nat.le_refl _, heap_alloc_new wr _, Nat.le_refl _, Nat.zero_le _, rfl, rfl⟩⟩
          have HB0 := Lib.hid (show Below wr.heap.size wr (wr.alloc (Obj.cells #[] 3)) from (Below.refl _ _).alloc (Nat.le_refl _) _)
          clear hn1 hn3
          go_wp2_with (at_builtin; refine wpList_append_own _ rfl _ _ 51 rfl wr.heap.size 3 i0 (.int .i64 0) 1 8 Try.underlying51 hi hz0 hz1 hz2 rfl (by decide) _ _ _ rfl HO0.out ⟨b, off, none⟩ k c n1 rfl HL1.out ?c1 HU1.out ?c3 ?c4 ?c5 ?_)
          case c1 =>
            intro j u hj
            rw [Addr.add_lit]
            exact Lib.cell?_alloc_some _ (HG1.out j u hj)
          case c3 => unfold maxLen; omega
          case c4 => omega
          case c5 => simp
          intro v2 w2 hown2 hgrow _
          have HB2 := Lib.hid (HB0.out.trans (below_grown5 hgrow (by simp) (own_base5 HO0.out)))
          have HO2 := Lib.hid hown2
          clear hown2 hgrow
          have hs2 := HB2.out.size
          go_wp2_with (at_builtin; refine wpList_append_own _ rfl _ _ 51 rfl wr.heap.size 3 i0 (.int .i64 0) 1 8 Try.underlying51 hi hz0 hz1 hz2 rfl (by decide) _ _ _ rfl (HO2.out.alloc _) ⟨w2.heap.size, 0, none⟩ 1 1 [.int .i64 x] rfl rfl ?c1 ?c2 ?c3 ?c4 ?c5 ?_)
          case c1 =>
            intro j u hj
            rcases j with _ | j
            · simpa [Addr.add] using hj
            · simp at hj
          case c2 => intro u hu; simp at hu; subst hu; rfl
          case c3 => unfold maxLen; omega
          case c4 => omega
          case c5 => simp; omega
          intro v3 w3 hown3 hgrow _
          have HB3 := Lib.hid ((HB2.out.alloc hs2 _).trans (below_grown5 hgrow (by simp; omega) (own_base5 HO2.out)))
          have HO3 := Lib.hid hown3
          clear hown3 hgrow
          have hs3 := HB3.out.size
          go_wp2_with (at_builtin; refine wpList_append_own _ rfl _ _ 51 rfl wr.heap.size 3 i0 (.int .i64 0) 1 8 Try.underlying51 hi hz0 hz1 hz2 rfl (by decide) _ _ _ rfl HO3.out ⟨b, off + k, none⟩ (n - k) (c - k) n3 ?c0 HL3.out ?c1 HU3.out ?c3 ?c4 ?c5 ?_)
          case c0 => rfl
          case c1 =>
            intro j u hj
            rw [Addr.add_lit, HB3.out.cell (p := ⟨b, off + k + j, none⟩) hbl]
            exact HG3.out j u hj
          case c3 => unfold maxLen; omega
          case c4 => omega
          case c5 => omega
          intro v4 w4 hown4 hgrow _
          have HB4 := Lib.hid (HB3.out.trans (below_grown5 hgrow (by omega) (own_base5 HO3.out)))
          have HO4 := Lib.hid hown4
          clear hown4 hgrow
          go_wp2
          go_ret
          refine ⟨_, rfl, ?_, fun k hk => Nat.le_trans hBw (own_base5 HO4.out k hk), HB4.out⟩
          rw [HW.out]
          have hlen : (l.take k ++ x :: l.drop k).length = k + 1 + (n - k) := by
            have := HN.out
            simp
            omega
          have h4 := HO4.out
          have e4 := HGL.out
          simp only [List.append_assoc, List.cons_append, List.nil_append] at h4 e4
          rw [e4, ← hlen] at h4
          exact ints_of_own h4 (by rw [hlen]; omega) (by rw [hlen]; omega)
    · have hk' : k = n := by omega
      have hltb : decide ((k : Int) < (n : Int)) = false := decide_eq_false (by omega)
      have hltn : decide (k < n) = false := decide_eq_false hlt
      have hno : l[k]? = none := List.getElem?_eq_none (by rw [HN.out]; omega)
      have HW := Lib.hid (show withT l x = l.take k ++ x :: l.drop k by rw [withT_at l k x (by rw [HN.out]; exact hk) HALL.out (fun t ht => by rw [hno] at ht; cases ht), if_neg (by rw [hno]; simp)])
      have hkc : (k : Int) ≤ (c : Int) := by omega
      clear hno
      clear hk'
      rcases Nat.lt_or_ge k c with hkc2 | hkc2
      · obtain ⟨n1, hn1⟩ : ∃ n1, n1 = (l.take k).map (Value.int .i64) := ⟨_, rfl⟩
        obtain ⟨n3, hn3⟩ : ∃ n3, n3 = (l.drop k).map (Value.int .i64) := ⟨_, rfl⟩
        have HL1 := Lib.hid (show n1.length = k * 1 by rw [hn1, List.length_map, List.length_take]; have := HN.out; omega)
        have HL3 := Lib.hid (show n3.length = (n - k) * 1 by rw [hn3, List.length_map, List.length_drop]; have := HN.out; omega)
        have HG1 : Hid (∀ j u, n1[j]? = some u → wr.cell? ⟨b, off + j, none⟩ = some u) := by
          intro j u hj
          rw [hn1, List.getElem?_map] at hj
          obtain ⟨t, ht, rfl⟩ := Option.map_eq_some_iff.1 hj
          refine HAT.out j t ?_
          rw [List.getElem?_take] at ht
          by_cases e : j < k
          · rwa [if_pos e] at ht
          · rw [if_neg e] at ht; cases ht
        have HG3 : Hid (∀ j u, n3[j]? = some u → wr.cell? ⟨b, off + k + j, none⟩ = some u) := by
          intro j u hj
          rw [hn3, List.getElem?_map] at hj
          obtain ⟨t, ht, rfl⟩ := Option.map_eq_some_iff.1 hj
          rw [Nat.add_assoc]
          exact HAT.out (k + j) t (by rwa [List.getElem?_drop] at ht)
        have HU1 := Lib.hid (show ∀ u ∈ n1, u.oneCell' = true by rw [hn1]; exact intCells_one _)
        have HU3 := Lib.hid (show ∀ u ∈ n3, u.oneCell' = true by rw [hn3]; exact intCells_one _)
        have HGL := Lib.hid (show (n1 ++ [Value.int .i64 x]) ++ n3 = (l.take k ++ x :: l.drop k).map (Value.int .i64) by rw [hn1, hn3]; exact glue l k x)
        have HO0 : Hid ((wr.alloc (Obj.cells #[] 3)).ownsRow wr.heap.size 3 1 (.slice (some ⟨wr.heap.size, 0, none⟩) 0 0) 0 []) :=
          ⟨rfl, .inr ⟨wr.heap.size, 0, #[], rfl, Nat.le_refl _, heap_alloc_new wr _, Nat.le_refl _, Nat.zero_le _, rfl, rfl⟩⟩
        have HB0 := Lib.hid (show Below wr.heap.size wr (wr.alloc (Obj.cells #[] 3)) from (Below.refl _ _).alloc (Nat.le_refl _) _)
        clear hn1 hn3
        go_wp2_with (at_builtin; refine wpList_append_own _ rfl _ _ 51 rfl wr.heap.size 3 i0 (.int .i64 0) 1 8 Try.underlying51 hi hz0 hz1 hz2 rfl (by decide) _ _ _ rfl HO0.out ⟨b, off, none⟩ k c n1 rfl HL1.out ?c1 HU1.out ?c3 ?c4 ?c5 ?_)
        case c1 =>
          intro j u hj
          rw [Addr.add_lit]
          exact Lib.cell?_alloc_some _ (HG1.out j u hj)
        case c3 => unfold maxLen; omega
        case c4 => omega
        case c5 => simp
        intro v2 w2 hown2 hgrow _
        have HB2 := Lib.hid (HB0.out.trans (below_grown5 hgrow (by simp) (own_base5 HO0.out)))
        have HO2 := Lib.hid hown2
        clear hown2 hgrow
        have hs2 := HB2.out.size
        go_wp2_with (at_builtin; refine wpList_append_own _ rfl _ _ 51 rfl wr.heap.size 3 i0 (.int .i64 0) 1 8 Try.underlying51 hi hz0 hz1 hz2 rfl (by decide) _ _ _ rfl (HO2.out.alloc _) ⟨w2.heap.size, 0, none⟩ 1 1 [.int .i64 x] rfl rfl ?c1 ?c2 ?c3 ?c4 ?c5 ?_)
        case c1 =>
          intro j u hj
          rcases j with _ | j
          · simpa [Addr.add] using hj
          · simp at hj
        case c2 => intro u hu; simp at hu; subst hu; rfl
        case c3 => unfold maxLen; omega
        case c4 => omega
        case c5 => simp; omega
        intro v3 w3 hown3 hgrow _
        have HB3 := Lib.hid ((HB2.out.alloc hs2 _).trans (below_grown5 hgrow (by simp; omega) (own_base5 HO2.out)))
        have HO3 := Lib.hid hown3
        clear hown3 hgrow
        have hs3 := HB3.out.size
        go_wp2_with (at_builtin; refine wpList_append_own _ rfl _ _ 51 rfl wr.heap.size 3 i0 (.int .i64 0) 1 8 Try.underlying51 hi hz0 hz1 hz2 rfl (by decide) _ _ _ rfl HO3.out ⟨b, off + k, none⟩ (n - k) (c - k) n3 ?c0 HL3.out ?c1 HU3.out ?c3 ?c4 ?c5 ?_)
        case c0 => rfl
        case c1 =>
          intro j u hj
          rw [Addr.add_lit, HB3.out.cell (p := ⟨b, off + k + j, none⟩) hbl]
          exact HG3.out j u hj
        case c3 => unfold maxLen; omega
        case c4 => omega
        case c5 => omega
        intro v4 w4 hown4 hgrow _
        have HB4 := Lib.hid (HB3.out.trans (below_grown5 hgrow (by omega) (own_base5 HO3.out)))
        have HO4 := Lib.hid hown4
        clear hown4 hgrow
        go_wp2
        go_ret
        refine ⟨_, rfl, ?_, fun k hk => Nat.le_trans hBw (own_base5 HO4.out k hk), HB4.out⟩
        rw [HW.out]
        have hlen : (l.take k ++ x :: l.drop k).length = k + 1 + (n - k) := by
          have := HN.out
          simp
          omega
        have h4 := HO4.out
        have e4 := HGL.out
        simp only [List.append_assoc, List.cons_append, List.nil_append] at h4 e4
        rw [e4, ← hlen] at h4
        exact ints_of_own h4 (by rw [hlen]; omega) (by rw [hlen]; omega)
      · have hkc3 : k = c := by omega
        subst hkc3
        obtain ⟨n1, hn1⟩ : ∃ n1, n1 = (l.take k).map (Value.int .i64) := ⟨_, rfl⟩
        obtain ⟨n3, hn3⟩ : ∃ n3, n3 = (l.drop k).map (Value.int .i64) := ⟨_, rfl⟩
        have HL1 := Lib.hid (show n1.length = k * 1 by rw [hn1, List.length_map, List.length_take]; have := HN.out; omega)
        have HL3 := Lib.hid (show n3.length = (n - k) * 1 by rw [hn3, List.length_map, List.length_drop]; have := HN.out; omega)
        have HG1 : Hid (∀ j u, n1[j]? = some u → wr.cell? ⟨b, off + j, none⟩ = some u) := by
          intro j u hj
          rw [hn1, List.getElem?_map] at hj
          obtain ⟨t, ht, rfl⟩ := Option.map_eq_some_iff.1 hj
          refine HAT.out j t ?_
          rw [List.getElem?_take] at ht
          by_cases e : j < k
          · rwa [if_pos e] at ht
          · rw [if_neg e] at ht; cases ht
        have HG3 : Hid (∀ j u, n3[j]? = some u → wr.cell? ⟨b, off + k + j, none⟩ = some u) := by
          intro j u hj
          rw [hn3, List.getElem?_map] at hj
          obtain ⟨t, ht, rfl⟩ := Option.map_eq_some_iff.1 hj
          rw [Nat.add_assoc]
          exact HAT.out (k + j) t (by rwa [List.getElem?_drop] at ht)
        have HU1 := Lib.hid (show ∀ u ∈ n1, u.oneCell' = true by rw [hn1]; exact intCells_one _)
        have HU3 := Lib.hid (show ∀ u ∈ n3, u.oneCell' = true by rw [hn3]; exact intCells_one _)
        have HGL := Lib.hid (show (n1 ++ [Value.int .i64 x]) ++ n3 = (l.take k ++ x :: l.drop k).map (Value.int .i64) by rw [hn1, hn3]; exact glue l k x)
        have HO0 : Hid ((wr.alloc (Obj.cells #[] 3)).ownsRow wr.heap.size 3 1 (.slice (some ⟨wr.heap.size, 0, none⟩) 0 0) 0 []) :=
          ⟨rfl, .inr ⟨wr.heap.size, 0, #[], rfl, Nat.le_refl _, heap_alloc_new wr _, Nat.le_refl _, Nat.zero_le _, rfl, rfl⟩⟩
        have HB0 := Lib.hid (show Below wr.heap.size wr (wr.alloc (Obj.cells #[] 3)) from (Below.refl _ _).alloc (Nat.le_refl _) _)
        clear hn1 hn3
        go_wp2_with (at_builtin; refine wpList_append_own _ rfl _ _ 51 rfl wr.heap.size 3 i0 (.int .i64 0) 1 8 Try.underlying51 hi hz0 hz1 hz2 rfl (by decide) _ _ _ rfl HO0.out ⟨b, off, none⟩ k k n1 rfl HL1.out ?c1 HU1.out ?c3 ?c4 ?c5 ?_)
        case c1 =>
          intro j u hj
          rw [Addr.add_lit]
          exact Lib.cell?_alloc_some _ (HG1.out j u hj)
        case c3 => unfold maxLen; omega
        case c4 => omega
        case c5 => simp
        intro v2 w2 hown2 hgrow _
        have HB2 := Lib.hid (HB0.out.trans (below_grown5 hgrow (by simp) (own_base5 HO0.out)))
        have HO2 := Lib.hid hown2
        clear hown2 hgrow
        have hs2 := HB2.out.size
        go_wp2_with (at_builtin; refine wpList_append_own _ rfl _ _ 51 rfl wr.heap.size 3 i0 (.int .i64 0) 1 8 Try.underlying51 hi hz0 hz1 hz2 rfl (by decide) _ _ _ rfl (HO2.out.alloc _) ⟨w2.heap.size, 0, none⟩ 1 1 [.int .i64 x] rfl rfl ?c1 ?c2 ?c3 ?c4 ?c5 ?_)
        case c1 =>
          intro j u hj
          rcases j with _ | j
          · simpa [Addr.add] using hj
          · simp at hj
        case c2 => intro u hu; simp at hu; subst hu; rfl
        case c3 => unfold maxLen; omega
        case c4 => omega
        case c5 => simp; omega
        intro v3 w3 hown3 hgrow _
        have HB3 := Lib.hid ((HB2.out.alloc hs2 _).trans (below_grown5 hgrow (by simp; omega) (own_base5 HO2.out)))
        have HO3 := Lib.hid hown3
        clear hown3 hgrow
        have hs3 := HB3.out.size
        go_wp2_with (at_builtin; refine wpList_append_own _ rfl _ _ 51 rfl wr.heap.size 3 i0 (.int .i64 0) 1 8 Try.underlying51 hi hz0 hz1 hz2 rfl (by decide) _ _ _ rfl HO3.out ⟨b, off, none⟩ 0 0 [] rfl rfl ?c1 ?c2 ?c3 ?c4 ?c5 ?_)
        case c1 =>
          intro j u hj
          simp at hj
        case c2 => intro u hu; cases hu
        case c3 => unfold maxLen; omega
        case c4 => omega
        case c5 => omega
        intro v4 w4 hown4 hgrow _
        have HB4 := Lib.hid (HB3.out.trans (below_grown5 hgrow (by omega) (own_base5 HO3.out)))
        have HO4 := Lib.hid hown4
        clear hown4 hgrow
        go_wp2
        go_ret
        refine ⟨_, rfl, ?_, fun k hk => Nat.le_trans hBw (own_base5 HO4.out k hk), HB4.out⟩
        rw [HW.out]
        have hlen : (l.take k ++ x :: l.drop k).length = k + 1 := by
          have := HN.out
          simp
          omega
        have h4 := HO4.out
        have e4 := HGL.out
        have hn3e : n3 = [] := List.eq_nil_of_length_eq_zero (by rw [HL3.out]; omega)
        rw [hn3e] at e4
        simp only [List.append_nil] at h4 e4
        rw [e4, ← hlen] at h4
        exact ints_of_own h4 (by rw [hlen]; omega) (by rw [hlen]; omega)
end Go.Proofs.Ytkldinppmnjmbaa
