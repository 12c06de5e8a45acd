/-
  The document's local in memory; who is next in it.
  Conditions: the numbers are small.
-/
import Derived.Test.YtngfcgegondmgaaAside
import Derived.Laws.OwnMore
set_option linter.unusedVariables false
namespace Go.Proofs.Ytngfcgegondmgaa
open Go.RowKit

theorem Try.infoRef : (Try.prog.info? 32).map (fun i => (i.zero, i.size, i.bytes)) = some (some (.agg #[.slice none 0 0, .slice none 0 0]), 2, 48) := by kernel_rfl
theorem Try.sizeRef (a b : Value) : (Try.prog.info? 32).map (·.size) = some (#[a, b] : Array Value).size := by
  show _ = some 2
  kernel_rfl
def gC (l : List Lm) : List Value := l.map fun m => .int .i64 m.g
theorem gC_length (l : List Lm) : (gC l).length = l.length := List.length_map _
theorem gC_one (l : List Lm) : ∀ u ∈ gC l, u.oneCell' = true := by
  intro u hu
  obtain ⟨m, _, rfl⟩ := List.mem_map.1 hu
  rfl
theorem wantsT_length (l : List Lm) : (wantsT l).length = l.length := List.length_map _
/-- Its wants, what each got: rows of a call's own. -/
abbrev RowW (W : World) (v : Value) (l : List Lm) : Prop := W.ownsRow 0 50 2 v l.length (spansCells (wantsT l))
abbrev RowG (W : World) (v : Value) (l : List Lm) : Prop := W.ownsRow 0 3 1 v l.length (gC l)
structure RefOwn (W : World) (vL vG : Value) (l : List Lm) : Prop where
  ws : RowW W vL l
  gs : RowG W vG l
theorem RefOwn.below {W W' : World} {vL vG : Value} {l : List Lm} (h : RefOwn W vL vG l) (hb : Below W.heap.size W W') : RefOwn W' vL vG l := ⟨own_below5 h.ws hb, own_below5 h.gs hb⟩
theorem rowW_at {W : World} {v : Value} {l : List Lm} (h : RowW W v l) {i : Nat} {m : Lm} (hi : l[i]? = some m) :
    ∃ g cap, v = .slice (some ⟨g, 0, none⟩) l.length cap ∧ g < W.heap.size ∧ l.length ≤ cap ∧ cap ≤ maxLen ∧ W.cell? ⟨g, i * 2, none⟩ = some (.int .i64 m.u) ∧ W.cell? ⟨g, i * 2 + 1, none⟩ = some (.int .i64 m.s) := by
  have hl := (List.getElem?_eq_some_iff.1 hi).1
  have h' : W.ownsRow 0 50 2 v (wantsT l).length (spansCells (wantsT l)) := by rw [wantsT_length]; exact h
  obtain ⟨g, cap, hv, _, h2, h3, h4, hat, _⟩ := own_lies h' (by rw [wantsT_length]; omega)
  rw [wantsT_length] at hv h3
  obtain ⟨c0, c1⟩ := hat i ((m.u : Int), (m.s : Int)) (by unfold wantsT; rw [List.getElem?_map, hi]; rfl)
  exact ⟨g, cap, hv, h2, h3, h4, c0, c1⟩
theorem rowG_at {W : World} {v : Value} {l : List Lm} (h : RowG W v l) {i : Nat} {m : Lm} (hi : l[i]? = some m) :
    ∃ g cap, v = .slice (some ⟨g, 0, none⟩) l.length cap ∧ g < W.heap.size ∧ l.length ≤ cap ∧ cap ≤ maxLen ∧ W.cell? ⟨g, i, none⟩ = some (.int .i64 m.g) ∧ W.frozen? ⟨g, i, none⟩ = false := by
  have hl := (List.getElem?_eq_some_iff.1 hi).1
  obtain ⟨h1, h2⟩ := h
  rcases h2 with ⟨rfl, h0⟩ | ⟨g, cap, cur, rfl, hg, hh, hn, hc, hs, ht⟩
  · omega
  · refine ⟨g, cap, rfl, heap_lt hh, hn, hc, ?_, by simp [World.frozen?, hh]⟩
    rw [cell_of_row W g i _ _ (0, 0) hh]
    have : (cur.toList.take (l.length * 1))[i]? = (gC l)[i]? := by rw [ht]
    rw [List.getElem?_take, if_pos (by omega)] at this
    rw [← Array.getElem?_toList, this]
    simp [gC, hi]
/-- The box of a local that is handed in. -/
theorem box_ref (W : World) (vL vG : Value) (t : Nat) : ∃ w1 P, W.alloc (.cells #[vL, vG] t) = w1 ∧ W.heap.size = P ∧ P < w1.heap.size ∧ Below W.heap.size W w1 ∧ w1.heap[P]? = some (.cells #[vL, vG] t (0, 0)) :=
  ⟨_, _, rfl, rfl, by simp, (Below.refl _ W).alloc (Nat.le_refl _) _, heap_alloc_new W _⟩
theorem two_heads {w : World} {P t : Nat} {a b : Value} (h : w.heap[P]? = some (.cells #[a, b] t (0, 0))) : w.cell? ⟨P, 0, none⟩ = some a ∧ w.cell? ⟨P, 1, none⟩ = some b ∧ w.frozen? ⟨P, 0, none⟩ = false ∧ w.frozen? ⟨P, 1, none⟩ = false := by
  refine ⟨?_, ?_, ?_, ?_⟩ <;> simp [World.cell?, World.frozen?, h]

set_option maxRecDepth 100000 in
set_option maxHeartbeats 4000000 in
theorem refNext_any {G : Nat} (W : World) (vL vG : Value) (l : List Lm) (ov : Value) (xs : List Int) (h : RefOwn W vL vG l) (ho : OkL G l) (hG : G ≤ 1000000) (hx : IntsAt W ov xs) :
    Calls Try.prog 31 #[.agg #[vL, vG], ov] W (RetB (.int .i64 (idxI (nextT (offB xs) l))) W) := by
  have HR := Lib.hid h
  have HF := Lib.hid (ho.mono hG)
  have HX := Lib.hid hx
  have hlen := ho.len
  obtain ⟨A, c, hvL⟩ := own_form h.ws
  obtain ⟨B, d, hvG⟩ := own_form h.gs
  subst hvL hvG
  obtain ⟨w1, P, hw1, hP, hPl, hb1, hbox⟩ := box_ref W (.slice A l.length c) (.slice B l.length d) 32
  obtain ⟨n, hn⟩ : ∃ n, l.length = n := ⟨_, rfl⟩
  rw [hn] at HR hlen hw1 hbox ⊢
  have HN := Lib.hid hn
  have HB1 := Lib.hid hb1
  have HBOX := Lib.hid hbox
  obtain ⟨r0, r1, r2, r3⟩ := two_heads hbox
  have mixed : Try.prog.follows .mixedOrders = true := by kernel_rfl
  clear h ho hG hx hn hb1 hbox
  go_enter Try.func31, Try.ntmps31
  go_wp2_with fail
  clear hw1 hP r0 r1 r2 r3
  go_loopg [5, 6] n (fun gg s5 s6 wr => ∃ (k : Nat) (b : Option (Nat × Lm)), k ≤ n ∧ gg = n - k ∧ s6 = .int .i64 k ∧ s5 = .int .i64 (idxI b) ∧ Below w1.heap.size w1 wr ∧ nextGo (offB xs) k b (l.drop k) = nextT (offB xs) l ∧ ∀ x, b = some x → l[x.1]? = some x.2)
  case atStart => exact ⟨0, none, Nat.zero_le _, by omega, rfl, rfl, Below.refl _ _, rfl, fun x hx => by cases hx⟩
  case round =>
    obtain ⟨k, b, hk, hg, rfl, rfl, hbw, hbest, hbx⟩ := hrel
    have HBW := Lib.hid hbw
    have HB := Lib.hid (HB1.out.trans (hbw.mono HB1.out.size))
    have HBEST := Lib.hid hbest
    have HBX := Lib.hid hbx
    have HG := Lib.hid hg
    have hPl2 : P < wr.heap.size := Nat.lt_of_lt_of_le hPl hbw.size
    obtain ⟨r0, r1, _, _⟩ := two_heads ((hbw.block P hPl).trans HBOX.out)
    have HRR := Lib.hid (HR.out.below HB.out)
    clear hbest hbx hg hbw
    by_cases hlt : k < n
    · have hltz : (k : Int) < (n : Int) := by omega
      obtain ⟨m, hm⟩ := ex_at (xs := l) (k := k) (by rw [HN.out]; exact hlt)
      obtain ⟨g, cap, hA, hgl, _, _, c0, c1⟩ := rowW_at HRR.out.ws hm
      obtain ⟨g2, cap2, hA2, hgl2, _, _, c2, _⟩ := rowG_at HRR.out.gs hm
      injection hA with hA hA1 hA3; clear hA1 hA3
      injection hA2 with hA2 hA1 hA3; clear hA1 hA3
      subst hA hA2
      have f1 := HF.out.got m (List.mem_of_getElem? hm)
      have f2 := HF.out.share m (List.mem_of_getElem? hm)
      have f3 := HF.out.s64 (List.mem_of_getElem? hm)
      have HGO := Lib.hid (next_step hm HBEST.out)
      have HM := Lib.hid hm
      have HCON := Lib.hid (refHas_any ov xs (m.u : Int) wr (HX.out.keep HB.out))
      have hofe : hasI xs (m.u : Int) = offB xs m.u := rfl
      rw [hofe] at HCON
      cases hof : offB xs m.u with
      | true =>
        rw [step_off hof] at HGO
        rw [hof] at HCON
        clear hm f1 f2 f3 hofe
        obtain ⟨m1', m2', m3'⟩ := m
        simp only at c0 c1 c2 hof HCON
        obtain ⟨bi, hbi⟩ : ∃ bi, idxI b = bi := ⟨_, rfl⟩
        rw [hbi]
        have HBI := Lib.hid hbi
        clear hbi
        go_wp2_with fail
        refine HCON.out.mono ?_
        rintro e w' ⟨rfl, rfl⟩
        go_wp2_with fail
        go_roundg (n - (k + 1))
        case measure => have := HG.out; omega
        case rel => exact ⟨k + 1, b, by omega, rfl, by go_num, (by rw [HBI.out]), HBW.out, HGO.out, HBX.out⟩
      | false =>
        rw [hof] at HCON
        cases b with
        | none =>
          rw [step_takes hof rfl] at HGO
          clear hm f1 f2 f3 hofe
          obtain ⟨m1', m2', m3'⟩ := m
          simp only at c0 c1 c2 hof HCON
          have hbi : idxI none = -1 := rfl
          rw [hbi]
          clear hbi
          go_wp2_with fail
          refine HCON.out.mono ?_
          rintro e w' ⟨rfl, rfl⟩
          go_wp2_with fail
          go_quiet (fail)
          go_wp2_with fail
          go_roundg (n - (k + 1))
          case measure => have := HG.out; omega
          case rel => exact ⟨k + 1, some (k, ⟨m1', m2', m3'⟩), by omega, rfl, by go_num, rfl, below_drewN HBW.out nq, HGO.out, fun x hx => by injection hx with hx; subst hx; exact HM.out⟩
        | some x =>
          obtain ⟨j, x⟩ := x
          have hxl : l[j]? = some x := HBX.out _ rfl
          have hjn : j < n := by have := (List.getElem?_eq_some_iff.1 hxl).1; have := HN.out; omega
          have hjz : (j : Int) < (n : Int) := by omega
          have hjz0 : (0 : Int) ≤ (j : Int) := by omega
          have hjz2 : decide ((j : Int) < 0) = false := decide_eq_false (by omega)
          have k1 := HF.out.got x (List.mem_of_getElem? hxl)
          have k3 := HF.out.s64 (List.mem_of_getElem? hxl)
          obtain ⟨g', cap', hA', _, _, _, d0, d1⟩ := rowW_at HRR.out.ws hxl
          obtain ⟨g2', cap2', hA2', _, _, _, d2, _⟩ := rowG_at HRR.out.gs hxl
          injection hA' with hA' hA1 hA3; clear hA1 hA3
          injection hA2' with hA2' hA1 hA3; clear hA1 hA3
          injection hA' with hA'; injection hA' with hA'
          injection hA2' with hA2'; injection hA2' with hA2'
          subst hA' hA2'
          obtain ⟨dd, hdd⟩ : ∃ dd, decide ((m.g + 1) * x.s < (x.g + 1) * m.s) = dd := ⟨_, rfl⟩
          have HT : Hid (takesL m (some (j, x)) = dd) := hdd
          have HOF := Lib.hid hof
          have hbi : idxI (some (j, x)) = (j : Int) := rfl
          rw [hbi]
          have b1 : (m.g + 1) * x.s ≤ 1000001 * 64 := Nat.mul_le_mul (by omega) k3
          have b2 : (x.g + 1) * m.s ≤ 1000001 * 64 := Nat.mul_le_mul (by omega) f3
          obtain ⟨p, hp⟩ : ∃ p, m.g + 1 = p := ⟨_, rfl⟩
          obtain ⟨q, hq⟩ : ∃ q, x.g + 1 = q := ⟨_, rfl⟩
          rw [hp] at b1 hdd
          rw [hq] at b2 hdd
          obtain ⟨a1, ha1⟩ : ∃ a, p * x.s = a := ⟨_, rfl⟩
          obtain ⟨a2, ha2⟩ : ∃ a, q * m.s = a := ⟨_, rfl⟩
          rw [ha1] at b1 hdd
          rw [ha2] at b2 hdd
          have z1 : (m.g : Int) + 1 = (p : Int) := by omega
          have z2 : (x.g : Int) + 1 = (q : Int) := by omega
          have z3 : (p : Int) * (x.s : Int) = (a1 : Int) := by rw [← Int.natCast_mul, ha1]
          have z4 : (q : Int) * (m.s : Int) = (a2 : Int) := by rw [← Int.natCast_mul, ha2]
          have z5 : (p : Int) ≤ 1000001 := by omega
          have z6 : (q : Int) ≤ 1000001 := by omega
          have z7 : (a1 : Int) ≤ 64000064 := by omega
          have z8 : (a2 : Int) ≤ 64000064 := by omega
          have z9 : decide ((a1 : Int) < (a2 : Int)) = dd := by
            rw [← hdd]
            by_cases h : a1 < a2
            · rw [decide_eq_true h, decide_eq_true (by omega)]
            · rw [decide_eq_false h, decide_eq_false (by omega)]
          have z10 := hdd
          clear hm f1 f2 f3 hbi k1 k3 hdd hxl hp hq ha1 ha2 b1 b2 hofe
          obtain ⟨m1', m2', m3'⟩ := m
          obtain ⟨y1', y2', y3'⟩ := x
          simp only at c0 c1 c2 d0 d1 d2 hof HCON z1 z2 z3 z4
          go_wp2_with fail
          refine HCON.out.mono ?_
          rintro e w' ⟨rfl, rfl⟩
          go_wp2_with fail
          go_quiet (fail)
          cases dd with
          | true =>
            rw [step_takes HOF.out HT.out] at HGO
            go_wp2_with fail
            go_roundg (n - (k + 1))
            case measure => have := HG.out; omega
            case rel => exact ⟨k + 1, some (k, ⟨m1', m2', m3'⟩), by omega, rfl, by go_num, rfl, below_drewN HBW.out nq, HGO.out, fun x hx => by injection hx with hx; subst hx; exact HM.out⟩
          | false =>
            rw [step_stays HOF.out HT.out] at HGO
            go_wp2_with fail
            go_roundg (n - (k + 1))
            case measure => have := HG.out; omega
            case rel => exact ⟨k + 1, some (j, ⟨y1', y2', y3'⟩), by omega, rfl, by go_num, rfl, below_drewN HBW.out nq, HGO.out, HBX.out⟩
    · have hltz : ¬ (k : Int) < (n : Int) := by omega
      have hfin : b = nextT (offB xs) l := by
        have := HBEST.out
        rwa [List.drop_of_length_le (by have := HN.out; omega)] at this
      have hbi : idxI b = idxI (nextT (offB xs) l) := by rw [hfin]
      generalize idxI b = bi at *
      have HBI := Lib.hid hbi
      clear hfin hbi
      go_wp2
      go_ret
      exact ⟨by rw [← HBI.out]; rfl, HB.out⟩
end Go.Proofs.Ytngfcgegondmgaa
