/-
  Where a plan's place belongs; append of pieces onto an empty row.
  Conditions: the plan is right.
-/
import Derived.Test.YtiadnpipbocecaaGreatM16
import Derived.Test.YtiadnpipbocecaaGreatM09

/-
  Check of the document.
  Conditions: the slice reads as wants.
-/
set_option linter.unusedVariables false
namespace Go.Proofs.YtiadnpipbocecaaGreat
open Go.RowKit

set_option maxRecDepth 100000 in
set_option maxHeartbeats 4000000 in
theorem refCheck_any (f : Int) (v : Value) (ps : List Sp) (w : World) (h : SpansAt w v ps) (hi : IntsS ps) : Calls Tryz.prog 29 #[.int .i64 f, v] w (RetB (.int .i64 (chkT f ps)) w) := by
  by_cases hf1 : f < 2
  · have HR : Hid (chkT f ps = 1) := if_pos (.inl hf1)
    obtain ⟨A, c, rfl, _⟩ := h
    go_enter Tryz.func29, Tryz.ntmps29
    go_wp2
    go_ret
    exact ⟨by rw [HR.out]; rfl, Below.refl _ _⟩
  · by_cases hf2 : 64 < f
    · have HR : Hid (chkT f ps = 1) := if_pos (.inr hf2)
      obtain ⟨A, c, rfl, _⟩ := h
      go_enter Tryz.func29, Tryz.ntmps29
      go_wp2
      go_ret
      exact ⟨by rw [HR.out]; rfl, Below.refl _ _⟩
    · obtain ⟨R, hR⟩ : ∃ R, chkT f ps = R := ⟨_, rfl⟩
      have HR : Hid (chkL f [] ps = R) := by rw [← hR]; exact (if_neg (by omega)).symm
      rw [hR]
      obtain ⟨A, c, rfl, hc1, hlen, hc2, hat⟩ := h
      have HAT := Lib.hid hat
      have HI := Lib.hid hi
      have HIS := Lib.hid (fun u W => is_any u W)
      generalize hn : ps.length = n at *
      have HN := Lib.hid hn
      clear hat hn hR hi
      go_enter Tryz.func29, Tryz.ntmps29
      go_wp2_with fail
      go_loopg [5, 6] n (fun gg s5 _ wr => ChkRel n f ps R w gg s5 wr)
      case atStart => exact ⟨0, Nat.zero_le _, by omega, rfl, Below.refl _ _, HR.out⟩
      case round =>
        obtain ⟨i, hin, hgg, rfl, hbw, hchk⟩ := hrel
        have HG := Lib.hid hgg
        have HB := Lib.hid hbw
        have HK := Lib.hid hchk
        have hsz := hbw.size
        clear hgg hbw hchk
        by_cases hlt : i < n
        · have hltz : (i : Int) < (n : Int) := by omega
          obtain ⟨b, off, hA, hbl, hcell⟩ := HAT.out (by omega)
          subst hA
          obtain ⟨y, hy⟩ := ex_at (xs := ps) (k := i) (by rw [HN.out]; exact hlt)
          obtain ⟨c1, c2⟩ := (hcell i y hy).keep HB.out hbl
          have HCELL := Lib.hid hcell
          have HY := Lib.hid hy
          have his := fun W => HIS.out y.1 W
          cases hu : isU y.1
          · have HU : Hid (∀ W, Calls Tryz.prog 40 #[.int .i64 y.1] W (Ret (.bool false) W)) := by
              intro W; have := his W; rw [hu] at this; exact this
            have HRN : Hid (R = 20) := by
              have e := chkE_id (f := f) (b := ps.take i) hu
              exact (chk_bad hy (by rw [e]; decide) HK.out).trans e
            obtain ⟨y1, y2⟩ := y
            simp only at c1 c2 HU
            clear hcell hy his hu
            go_wp2_with (go_at_call 40; refine (HU.out _).mono ?_; rintro e w' ⟨rfl, rfl⟩)
            go_ret
            exact ⟨by rw [HRN.out]; rfl, HB.out⟩
          · have HU : Hid (∀ W, Calls Tryz.prog 40 #[.int .i64 y.1] W (Ret (.bool true) W)) := by
              intro W; have := his W; rw [hu] at this; exact this
            by_cases hs1 : y.2 < 1
            · have HRN : Hid (R = 21) := by
                have e := chkE_share (f := f) (b := ps.take i) hu (.inl hs1)
                exact (chk_bad hy (by rw [e]; decide) HK.out).trans e
              obtain ⟨y1, y2⟩ := y
              simp only at c1 c2 HU hs1
              clear hcell hy his hu
              go_wp2_with (go_at_call 40; refine (HU.out _).mono ?_; rintro e w' ⟨rfl, rfl⟩)
              go_ret
              exact ⟨by rw [HRN.out]; rfl, HB.out⟩
            · by_cases hs2 : f < y.2
              · have HRN : Hid (R = 21) := by
                  have e := chkE_share (f := f) (b := ps.take i) hu (.inr hs2)
                  exact (chk_bad hy (by rw [e]; decide) HK.out).trans e
                obtain ⟨y1, y2⟩ := y
                simp only at c1 c2 HU hs1 hs2
                clear hcell hy his hu
                go_wp2_with (go_at_call 40; refine (HU.out _).mono ?_; rintro e w' ⟨rfl, rfl⟩)
                go_ret
                exact ⟨by rw [HRN.out]; rfl, HB.out⟩
              · have HOK : Hid ((∀ (j : Nat) (s : Sp), j < i → ps[j]? = some s → s.1 ≠ y.1) → chkL f (ps.take (i + 1)) (ps.drop (i + 1)) = R) := fun hall =>
                  chk_ok hy (chkE_ok hu hs1 hs2 (any_unit fun j s hj => by
                    rw [List.getElem?_take] at hj
                    split at hj
                    · exact hall j s (by assumption) hj
                    · cases hj)) HK.out
                have HBAD : Hid (∀ (j : Nat) (s : Sp), j < i → ps[j]? = some s → s.1 = y.1 → R = 11) := fun j s hj hs he => by
                  have e := chkE_two (f := f) (b := ps.take i) hu hs1 hs2 (any_unit_yes (j := j) (s := s) (by rw [List.getElem?_take, if_pos hj]; exact hs) he)
                  exact (chk_bad hy (by rw [e]; decide) HK.out).trans e
                obtain ⟨y1, y2⟩ := y
                simp only at c1 c2 HU hs1 hs2
                clear hcell hy his hu c1 c2
                obtain ⟨c1, c2⟩ := (HCELL.out i (y1, y2) HY.out).keep HB.out hbl
                simp only at c1 c2
                go_wp2_with (go_at_call 40; refine (HU.out _).mono ?_; rintro e w' ⟨rfl, rfl⟩)
                clear c1 c2
                go_loopg [6] i (fun gg s6 wq => ∃ k : Nat, k ≤ i ∧ gg = i - k ∧ s6 = .int .i64 k ∧ Below w.heap.size w wq ∧ ∀ (j : Nat) (s : Sp), j < k → ps[j]? = some s → s.1 ≠ y1)
                case atStart => exact ⟨0, Nat.zero_le _, by omega, rfl, HB.out, fun j s hj => absurd hj (Nat.not_lt_zero _)⟩
                case round =>
                  obtain ⟨k, hki, hgk, rfl, hbk, hall⟩ := hrel
                  have HGK := Lib.hid hgk
                  have HBK := Lib.hid hbk
                  have HALL := Lib.hid hall
                  clear hgk hbk hall
                  obtain ⟨c1, c2⟩ := (HCELL.out i (y1, y2) HY.out).keep HBK.out hbl
                  simp only at c1 c2
                  by_cases hk : k < i
                  · have hkz : (k : Int) < (i : Int) := by omega
                    have hkn : (k : Int) < (n : Int) := by omega
                    obtain ⟨z, hz⟩ := ex_at (xs := ps) (k := k) (by rw [HN.out]; omega)
                    obtain ⟨d1, d2⟩ := (HCELL.out k z hz).keep HBK.out hbl
                    by_cases he : z.1 = y1
                    · have HRN := Lib.hid (HBAD.out k z hk hz he)
                      obtain ⟨z1, z2⟩ := z
                      simp only at d1 d2 he
                      have hq : (z1 == y1) = true := by simpa using he
                      clear hz he
                      go_wp2_with fail
                      go_quiet (fail)
                      go_wp2
                      go_ret
                      exact ⟨by rw [HRN.out]; rfl, below_drewN HBK.out _⟩
                    · have HALL2 : Hid (∀ (j : Nat) (s : Sp), j < k + 1 → ps[j]? = some s → s.1 ≠ y1) := fun j s hj hs => by
                        by_cases e : j = k
                        · subst e
                          rw [hz] at hs
                          cases hs
                          exact he
                        · exact HALL.out j s (by omega) hs
                      obtain ⟨z1, z2⟩ := z
                      simp only at d1 d2 he
                      have hq : (z1 == y1) = false := by simpa using he
                      clear hz he
                      go_wp2_with fail
                      go_quiet (fail)
                      go_wp2_with fail
                      go_roundg (i - (k + 1))
                      case measure => have := HGK.out; omega
                      case rel => exact ⟨k + 1, by omega, rfl, by go_num, below_drewN HBK.out _, HALL2.out⟩
                  · have hke : k = i := by omega
                    subst hke
                    have hkz : ¬ (k : Int) < (k : Int) := by omega
                    have HT2 := Lib.hid (HOK.out HALL.out)
                    go_wp2_with fail
                    go_roundg (n - (k + 1))
                    case measure => have := HG.out; omega
                    case rel => exact ⟨k + 1, by omega, rfl, by go_num, HBK.out, HT2.out⟩
        · have hin' : i = n := by omega
          subst hin'
          have hltz : ¬ (i : Int) < (i : Int) := by omega
          have HRN : Hid (R = 0) := by
            have := HK.out
            rw [List.drop_eq_nil_of_le (by rw [HN.out]; exact Nat.le_refl _)] at this
            exact this.symm
          go_wp2
          go_ret
          exact ⟨by rw [HRN.out]; rfl, HB.out⟩
end Go.Proofs.YtiadnpipbocecaaGreat

/-
  Where a plan's place belongs; append of pieces onto an empty row.
  Conditions: the plan is right.
-/
set_option linter.unusedVariables false
set_option linter.unusedSimpArgs false
namespace Go.Proofs.YtiadnpipbocecaaGreat
open Go.RowKit

/-- A right plan without one of its places. -/
def lessT (l : List Pl) (i : Nat) : List Pl := l.take i ++ l.drop (i + 1)
theorem less_get {l : List Pl} {i : Nat} (hi : i < l.length) (j : Nat) : (lessT l i)[j]? = if j < i then l[j]? else l[j + 1]? := by
  unfold lessT
  by_cases h : j < i
  · rw [if_pos h, List.getElem?_append_left (by rw [List.length_take]; omega), List.getElem?_take_of_lt h]
  · rw [if_neg h, List.getElem?_append_right (by rw [List.length_take]; omega), List.length_take, Nat.min_eq_left (by omega), List.getElem?_drop]
    congr 1
    omega
theorem drop_less {f : Int} {m : Nat} {l : List Pl} {i : Nat} {z : Pl} (hr : Right f m l) (hi : l[i]? = some z) : dropT l z.u = lessT l i := by
  obtain ⟨hlt, _⟩ := List.getElem?_eq_some_iff.1 hi
  have e : l = l.take i ++ z :: l.drop (i + 1) := by
    obtain ⟨hk, hx'⟩ := List.getElem?_eq_some_iff.1 hi
    rw [← hx', ← List.drop_eq_getElem_cons hk, List.take_append_drop]
  have h1 : (l.take i).filter (fun x => !decide (x.u = z.u)) = l.take i := List.filter_eq_self.2 fun x hx => by
    obtain ⟨j, hj⟩ := List.mem_iff_getElem?.1 hx
    have hji : j < i := by
      have := (List.getElem?_eq_some_iff.1 hj).1
      rw [List.length_take] at this
      omega
    rw [List.getElem?_take_of_lt hji] at hj
    have := hr.rise hji hj hi
    simp
    omega
  have h2 : (l.drop (i + 1)).filter (fun x => !decide (x.u = z.u)) = l.drop (i + 1) := List.filter_eq_self.2 fun x hx => by
    obtain ⟨j, hj⟩ := List.mem_iff_getElem?.1 hx
    rw [List.getElem?_drop] at hj
    have := hr.rise (show i < i + 1 + j by omega) hi hj
    simp
    omega
  unfold dropT lessT
  conv => lhs; rw [e]
  rw [List.filter_append, List.filter_cons, h1, h2]
  simp
theorem less_put {f : Int} {m : Nat} {l : List Pl} {i : Nat} {z : Pl} (hr : Right f m l) (hi : l[i]? = some z) : PutAt (lessT l i) z.u i := by
  have hlt := (List.getElem?_eq_some_iff.1 hi).1
  refine ⟨by unfold lessT; rw [List.length_append, List.length_take]; omega, fun j y hy => ?_⟩
  rw [less_get hlt] at hy
  by_cases h : j < i
  · rw [if_pos h] at hy
    have := hr.rise h hy hi
    exact ⟨fun _ => h, fun _ => this⟩
  · rw [if_neg h] at hy
    have := hr.rise (show i < j + 1 by omega) hi hy
    exact ⟨fun e => by omega, fun e => absurd e h⟩
theorem less_drop {d : List Pl} {u : Int} {i : Nat} (h : PutAt d u i) (hn : ∀ x ∈ d, x.u ≠ u) : dropT d u = d := List.filter_eq_self.2 fun x hx => by simp [hn x hx]
theorem less_ne {f : Int} {m : Nat} {l : List Pl} {i : Nat} {z : Pl} (hr : Right f m l) (hi : l[i]? = some z) : ∀ x ∈ lessT l i, x.u ≠ z.u := fun x hx => by
  rw [← drop_less hr hi] at hx
  simpa using (List.mem_filter.1 hx).2
theorem less_back {l : List Pl} {i : Nat} {z : Pl} (hi : l[i]? = some z) : putPl (lessT l i) z i = l := by
  have hlt := (List.getElem?_eq_some_iff.1 hi).1
  have e : l = l.take i ++ z :: l.drop (i + 1) := by
    obtain ⟨hk, hx'⟩ := List.getElem?_eq_some_iff.1 hi
    rw [← hx', ← List.drop_eq_getElem_cons hk, List.take_append_drop]
  have hti : (l.take i).length = i := by rw [List.length_take]; omega
  unfold putPl lessT
  rw [List.take_append_of_le_length (by omega), List.take_of_length_le (by omega), List.drop_append_of_le_length (by omega), List.drop_of_length_le (by omega)]
  conv => rhs; rw [e]
  simp

/-- append in a region that draws, by its run. -/
theorem step_append_run16 {ops : Array Oper} {o : Oper} {a : Act} {w : World} {K : Act → World → Prop} {Q : Exit → Act → World → Prop} {E : Prop}
    (hg : o.guard = none) (d x : Operand) (dT sT : TypeId) (hop : o.op = Op.call { callee := Callee.builtin Builtin.append, args := #[d, x], argTypes := #[dT, sT] })
    (v u : Value) (hd : a.eval d = v) (hx : a.eval x = u) {v' : Value} {w' : World} (hr : (Builtin.append_ #[dT, sT] o.type #[v, u]).run Tryz.prog w = .ok v' w') (hK : K (a.put o.dst v') w') :
    if Region.wanted o (yielded ops a.tmps) = true then Oper.wp Tryz.prog o a w K Q else E := by
  have hw : Region.wanted o (yielded ops a.tmps) = true := by simp [Region.wanted, hg]
  rw [if_pos hw]
  unfold Oper.wp
  simp [execOp, hop, resolve, invoke, builtin, hd, hx, hr, Result.andThen]
  exact hK
theorem step_store_row16 {ops : Array Oper} {o : Oper} {a : Act} {w : World} {K : Act → World → Prop} {Q : Exit → Act → World → Prop} {E : Prop}
    (hg : o.guard = none) (ty : TypeId) (x y : Operand) (ho : o.op = .store ty x y)
    (g : Nat) (cells : Array Value) (hx : a.eval x = .pointer (some ⟨g, 0, none⟩)) (hy : a.eval y = .agg cells)
    (t : TypeId) (old : Array Value) (hgg : w.heap[g]? = some (.cells old t (0, 0))) (hi : (Tryz.prog.info? ty).map (·.size) = some cells.size)
    (hold : old.size = cells.size) (h1 : cells.all (·.oneCell') = true) (hK : K (a.put o.dst undef) (w.setRow g cells)) :
    if Region.wanted o (yielded ops a.tmps) = true then Oper.wp Tryz.prog o a w K Q else E := by
  have hw : Region.wanted o (yielded ops a.tmps) = true := by simp [Region.wanted, hg]
  rw [if_pos hw]
  exact wp_store_row ty x y ho g cells hx hy t old hgg hi hold h1 hK
theorem pcs_of_ownB {W : World} {base : Nat} {v : Value} {ps : List Pc} (h : W.ownsRow base 66 2 v ps.length (pcsCells ps)) : PcsIn (fun b => v.ownBlock = some b) W v ps := by
  obtain ⟨A, c, rfl, h1, h2, h3⟩ := pcs_of_own h
  refine ⟨A, c, rfl, h1, h2, fun h0 => ?_⟩
  obtain ⟨b, off, rfl, hb, _, hc⟩ := h3 h0
  exact ⟨b, off, rfl, hb, rfl, hc⟩
/-- append of pieces onto an empty row. -/
theorem app_pcs (W : World) (E : Nat) (hE : W.heap[E]? = some (.cells #[] 66 (0, 0))) (v : Value) (ps : List Pc) (h : PcsAt W v ps) (hl : ps.length ≤ 1000) :
    ∃ v' w', (Builtin.append_ #[41, 41] 41 #[.slice (some ⟨E, 0, none⟩) 0 0, v]).run Tryz.prog W = .ok v' w' ∧ PcsIn (fun b => b = E ∨ W.heap.size ≤ b) w' v' ps ∧ Below E W w' ∧ ∀ b, b < W.heap.size → b ≠ E → w'.heap[b]? = W.heap[b]? := by
  obtain ⟨i, hi, hz0, hz1, hz2⟩ := info_parts Tryz.infoPc
  obtain ⟨A, c, rfl, h1, h2, h3⟩ := h
  have hEl := heap_lt hE
  rcases A with _ | a
  · have : ps = [] := by
      rcases Nat.eq_zero_or_pos ps.length with h | h
      · exact List.eq_nil_of_length_eq_zero h
      · obtain ⟨b, off, e, _⟩ := h3 h; cases e
    subst this
    refine ⟨.slice (some ⟨E, 0, none⟩) 0 0, W, ?_, ⟨_, 0, rfl, Nat.le_refl _, by decide, fun h => absurd h (by decide)⟩, Below.refl _ _, fun _ _ _ => rfl⟩
    simp [Builtin.append_, run_underlying Tryz.underlying41, Builtin.lenOf, sizeOf, typeInfo, hi, hz1, Builtin.firstCells, storeCells, Result.andThen]
  · have hown : W.ownsRow E 66 2 (.slice (some ⟨E, 0, none⟩) 0 0) 0 [] := ⟨rfl, .inr ⟨E, 0, #[], rfl, Nat.le_refl _, hE, Nat.le_refl _, Nat.zero_le _, rfl, rfl⟩⟩
    obtain ⟨v', w', hr, ho, hg, _, hat⟩ := run_append_own_at (P := Tryz.prog) W E 41 41 66 i (.agg #[.int .i64 0, .int .u64 0]) 2 16 Tryz.underlying41 hi hz0 hz1 hz2 rfl (by decide) _ 0 [] hown a ps.length c (pcsCells ps) (pcsCells_length ps) (fun j u hj => by
      have hj' : j < ps.length * 2 := by rw [← pcsCells_length]; exact (List.getElem?_eq_some_iff.1 hj).1
      obtain ⟨b, off, e, hlt, _, hc⟩ := h3 (by omega)
      cases e
      rw [Addr.add_lit]
      exact pcsCells_of ps hc j u hj) (pcsCells_one ps) (by unfold maxLen; omega) (by omega) (by omega)
    rw [Nat.zero_add, List.nil_append] at ho
    refine ⟨v', w', hr, (pcs_of_ownB ho).mono fun b _ hb => ?_, below_grown5 hg (by omega) fun k hk => (by cases hk; exact Nat.le_refl _), fun b hb hne => hg.block b hb fun e => hne (by cases e; rfl)⟩
    rcases hat with hat | hat
    · rw [hat] at hb
      exact .inl (Option.some.inj hb).symm
    · rw [hat] at hb
      exact .inr (Nat.le_of_eq (Option.some.inj hb))
end Go.Proofs.YtiadnpipbocecaaGreat
