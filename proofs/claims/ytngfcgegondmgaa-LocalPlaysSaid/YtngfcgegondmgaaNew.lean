/-
  slices.SortFunc of members by their units; New by contract.
  Conditions: the slice reads as wants of ints.
-/
import Derived.Test.YtngfcgegondmgaaNewMath
import Derived.Test.YtngfcgegondmgaaWants
import Derived.Test.YtngfcgegondmgaaChecks
import Derived.Test.YtngfcgegondmgaaShelfSort
import Derived.Test.YtngfcgegondmgaaBefore
import Derived.Shelf.SlSortCmp.NoneTotal
set_option linter.unusedVariables false
namespace Go.Proofs.Ytngfcgegondmgaa
open Go.RowKit Go.Sort Go.Lib

instance : Inhabited Lm := ⟨⟨0, 0, 0⟩⟩
theorem flat_mb (l : List Lm) : flatK mbCells 3 l.toArray = (rowC l).toArray := by
  apply Array.ext
  · simp [rowC_length]
  · intro t h1 h2
    have ht : t < l.length * 3 := by simpa [rowC_length] using h2
    have hj : t / 3 < l.length := by omega
    obtain ⟨g1, g2, g3⟩ := rowC_get l (t / 3) _ (List.getElem?_eq_getElem hj)
    have e0 : (flatK mbCells 3 l.toArray)[t]'h1 = (flatK mbCells 3 l.toArray)[t]! := (getElem!_pos _ t h1).symm
    rw [e0, get_flatK _ _ _ _ (by simpa using ht)]
    have e1 : l.toArray[t / 3]! = l[t / 3] := by rw [getElem!_pos l.toArray (t / 3) (by simpa using hj)]; simp
    rw [e1]
    have e2 : ((rowC l).toArray)[t]'h2 = (rowC l)[t]'(by simpa using h2) := by simp
    rw [e2]
    have h3 : t % 3 = 0 ∨ t % 3 = 1 ∨ t % 3 = 2 := by omega
    rcases h3 with h | h | h
    · rw [h]
      have : t / 3 * 3 = t := by omega
      rw [this] at g1
      have := (List.getElem?_eq_some_iff.1 g1).2
      rw [this]; rfl
    · rw [h]
      have : t / 3 * 3 + 1 = t := by omega
      rw [this] at g2
      have := (List.getElem?_eq_some_iff.1 g2).2
      rw [this]; rfl
    · rw [h]
      have : t / 3 * 3 + 2 = t := by omega
      rw [this] at g3
      have := (List.getElem?_eq_some_iff.1 g3).2
      rw [this]; rfl

theorem heap_put {w : World} {g n e : Nat} {os : Array Obj} {cur F : Array Value} (h : w.heap[g]? = some (.cells cur e (0, 0))) :
    (grow (putRow id (Sort.ahead w n) g 0 F) os).heap[g]? = some (.cells (putCells id 0 F cur) e (0, 0)) := by
  have hlt : g < w.heap.size := (Array.getElem?_eq_some_iff.1 h).1
  unfold grow putRow mapBlock Sort.ahead
  show ((w.heap.modify g _) ++ os)[g]? = _
  rw [Array.getElem?_append_left (by simpa using hlt), Array.getElem?_modify, if_pos rfl, h]
  rfl
theorem take_put (cur : Array Value) (F : List Value) (h : F.length ≤ cur.size) : (putCells id 0 F.toArray cur).toList.take F.length = F := by
  apply List.ext_getElem?
  intro j
  by_cases hj : j < F.length
  · rw [List.getElem?_take_of_lt hj, Array.getElem?_toList]
    simp [putCells, hj, show j < cur.size by omega]
  · rw [List.getElem?_take_eq_none (by omega), List.getElem?_eq_none (by omega)]
theorem below_put {w : World} {base g n : Nat} {os : Array Obj} {F : Array Value} (hg : base ≤ g) (hb : base ≤ w.heap.size) : Below base w (grow (putRow id (Sort.ahead w n) g 0 F) os) := by
  refine ⟨rfl, rfl, rfl, ?_, fun k hk => ?_⟩
  · simp [grow, putRow, mapBlock, Sort.ahead]
  · unfold grow putRow mapBlock Sort.ahead
    show ((w.heap.modify g _) ++ os)[k]? = _
    rw [Array.getElem?_append_left (by simp; omega), Array.getElem?_modify, if_neg (by omega)]

def cmpM (x y : Lm) : Int := cmpI (x.u : Int) (y.u : Int)
theorem ltM (x y : Lm) : ltOf cmpM x y = decide (x.u < y.u) := by
  show decide (cmpI (x.u : Int) (y.u : Int) < 0) = _
  unfold cmpI
  by_cases h : (x.u : Int) < (y.u : Int)
  · rw [if_pos h, decide_eq_true (show x.u < y.u by omega)]; rfl
  · rw [if_neg h, decide_eq_false (show ¬ x.u < y.u by omega)]
    split <;> rfl
theorem swoM : SWO (ltOf cmpM) where
  irrefl x := by rw [ltM]; exact decide_eq_false (Nat.lt_irrefl _)
  trans x y z h1 h2 := by rw [ltM] at *; have := of_decide_eq_true h1; have := of_decide_eq_true h2; exact decide_eq_true (by omega)
  ntrans x y z h1 h2 := by rw [ltM] at *; have := of_decide_eq_false h1; have := of_decide_eq_false h2; exact decide_eq_false (by omega)
theorem cmpM_any (x y : Lm) (W : World) : Calls Try.prog 27 #[.agg #[.int .i64 x.u, .int .i64 x.s, .int .i64 x.g], .agg #[.int .i64 y.u, .int .i64 y.s, .int .i64 y.g]] W fun e w' => e = .returned (.int .i64 (cmpM x y)) ∧ ∃ q os', w' = grow (W.drewN q) os' := by
  have HC := Lib.hid (fun W => compareInt_any (x.u : Int) (y.u : Int) W)
  obtain ⟨x1, x2, x3⟩ := x
  obtain ⟨y1, y2, y3⟩ := y
  unfold cmpM
  simp only at *
  generalize cmpI (x1 : Int) (y1 : Int) = r at *
  go_enter Try.func27, Try.ntmps27
  go_wp2_with (go_at_call 28; refine (HC.out _).mono ?_; rintro e w1 ⟨rfl, rfl⟩)
  go_ret
  exact ⟨rfl, 0, _, by rw [alloc_eq_grow, alloc_eq_grow, grow_grow]; rfl⟩

theorem sortM_any (base : Nat) (v : Value) (l : List Lm) (w : World) (h : w.ownsRow base 67 3 v l.length (rowC l)) (hl : l.length ≤ 100000) (hbase : base ≤ w.heap.size) :
    Calls Try.prog 26 #[v, .func (.func 27) #[] #[]] w
      (fun e w' => e = .returned (.tuple #[]) ∧ ∃ l', l'.Perm l ∧ RiseS l' ∧ w'.ownsRow base 67 3 v l'.length (rowC l') ∧ Below base w w') := by
  rcases Nat.eq_zero_or_pos l.length with h0 | hpos
  · have : l = [] := List.eq_nil_of_length_eq_zero h0
    subst this
    have hv : ∃ p cap, v = .slice p 0 cap := by
      rcases h.2 with ⟨h1, _⟩ | ⟨g, cap, cur, h1, _⟩
      · exact ⟨_, _, h1⟩
      · exact ⟨_, _, h1⟩
    obtain ⟨p, cap, rfl⟩ := hv
    refine (AnyF.slices_SortFunc_none Try.sort5 p cap _ w).mono ?_
    rintro e w' ⟨rfl, rfl⟩
    exact ⟨rfl, [], List.Perm.refl _, List.Pairwise.nil, h, Below.refl _ _⟩
  · obtain ⟨g, cap, rfl, hbg, hgl, hncap, hcm, hat, hfr⟩ := own3_lies h hpos
    have eg : ∀ args w, (callFunc 27 args).run Try.prog w = .ok (.enter 27 args) w := enters_of Try.func27 (by kernel_rfl) rfl
    have hH : HoldsK mbCells 3 w g 0 l.toArray := by
      unfold HoldsK
      rw [flat_mb]
      intro j hj
      have hj' : j < l.length * 3 := by simpa [rowC_length] using hj
      rw [Nat.zero_add]
      refine ⟨?_, hfr j⟩
      rcases h.2 with ⟨h0, _⟩ | ⟨g', cap', cur, hv, _, hh, _, _, hs, ht⟩
      · cases h0
      · injection hv with e1 e2 e3
        injection e1 with e1
        injection e1 with e1
        subst e1 e3
        rw [cell_of_row w g j _ _ (0, 0) hh, getElem!_pos _ j hj, ← Array.getElem?_toList]
        have : (cur.toList.take (l.length * 3))[j]? = (rowC l)[j]? := by rw [ht]
        rw [List.getElem?_take, if_pos hj'] at this
        rw [this]
        simp [List.getElem?_eq_getElem (show j < (rowC l).length by rw [rowC_length]; exact hj')]
    have hcon := AnyQ.slices_SortFunc Try.sort5 3 Try.isAgg67 Try.sizeOf67 mbCells (fun _ => rfl) (fun x v hv => by simp [mbCells] at hv; rcases hv with rfl | rfl | rfl <;> rfl) cmpM swoM 27 #[] g 0 cap l.toArray w eg
      (fun m os dk hs x y => cmpM_any x y _) hH hgl (by simp; omega)
    have hsz : l.toArray.size = l.length := by simp
    rw [hsz] at hcon
    refine Calls.mono hcon ?_
    rintro e w' ⟨rfl, d', n, os, hp, hs, rfl⟩
    obtain ⟨p1, p2, p3⟩ := hp
    have hlen : d'.toList.length = l.length := by rw [Array.length_toList, p1, hsz]
    have hper : d'.toList.Perm l := by
      have e1 : (d'.extract 0 l.length).toList = d'.toList := by rw [← hlen]; simp
      have e2 : (l.toArray.extract 0 l.length).toList = l := by simp
      rw [e1, e2] at p3
      exact p3
    have hsor : RiseS d'.toList := by
      unfold RiseS
      rw [List.pairwise_iff_getElem]
      intro i j hi hj hij
      have := hs i j (Nat.zero_le _) hij (by omega)
      rw [ltM] at this
      have e1 : d'[i]! = d'.toList[i] := by rw [getElem!_pos d' i (by rw [← Array.length_toList]; exact hi)]; simp
      have e2 : d'[j]! = d'.toList[j] := by rw [getElem!_pos d' j (by rw [← Array.length_toList]; exact hj)]; simp
      rw [e1, e2] at this
      have h2 := of_decide_eq_false (by simpa using this : decide (d'.toList[j].u < d'.toList[i].u) = false)
      omega
    refine ⟨rfl, d'.toList, hper, hsor, ?_, ?_⟩
    · obtain ⟨h1, h2⟩ := h
      rcases h2 with ⟨h2, _⟩ | ⟨g', cap', cur, hv, hg, hh, hn, hc, hs', ht⟩
      · cases h2
      · injection hv with e1 e2 e3
        injection e1 with e1
        injection e1 with e1
        subst e1 e3
        have hF : (flatK mbCells 3 d') = (rowC d'.toList).toArray := by
          have := flat_mb d'.toList
          simpa using this
        rw [hlen]
        refine ⟨by rw [rowC_length, hlen], .inr ⟨g, cap, _, rfl, hbg, heap_put hh, hn, hc, by simp [putCells, hs'], ?_⟩⟩
        rw [hF]
        have hl2 : (rowC d'.toList).length = l.length * 3 := by rw [rowC_length, hlen]
        rw [← hl2]
        exact take_put cur _ (by rw [hl2, hs']; omega)
    · exact below_put hbg hbase

/-! ### New -/
def NewPost (W : World) (l : List Lm) (e : Ending) (w' : World) : Prop := ∃ rb, e = .returned (.tuple #[.pointer (some ⟨rb, 0, none⟩), .int .i64 0]) ∧ Held W.heap.size w' rb l ∧ Below W.heap.size W w'
theorem new_bad (f : Int) (v : Value) (ps : List Sp) (W : World) (h : SpansAt W v ps) (hi : IntsS ps) (he : newE f ps ≠ 0) :
    Calls Try.prog 8 #[.int .i64 f, v] W (RetB (.tuple #[.pointer none, .int .i64 (newE f ps)]) W) := by
  have HCH := Lib.hid (check_any f v ps W h hi)
  by_cases h1 : chkT f ps = 0
  · obtain ⟨⟨_, k1⟩, k2⟩ := chk_right h1
    have htot := totT_right k1 k2 h.len
    have h2 : f < sumP ps := by
      by_cases h2 : f < sumP ps
      · exact h2
      · exact absurd (newE_ok h1 h2) he
    rw [newE_full h1 h2]
    rw [h1] at HCH
    have HT := Lib.hid (fun (w : World) (hb : Below W.heap.size W w) => total_any v ps w (h.keep hb) hi)
    rw [htot] at HT
    have q1 : decide (f < sumP ps) = true := decide_eq_true h2
    obtain ⟨S, hS⟩ : ∃ S, sumP ps = S := ⟨_, rfl⟩
    have hv1 : sumV (some S) = S := rfl
    have hv2 : sumE (some S) = 0 := rfl
    rw [hS] at HT q1 h2
    rw [hv1, hv2] at HT
    clear h hi he h1 htot hS k1 k2 hv1 hv2
    go_enter Try.func8, Try.ntmps8
    go_wp2_with fail
    refine HCH.out.mono ?_
    rintro e w1 ⟨rfl, hb⟩
    have HB := Lib.hid hb
    clear hb
    go_wp2_with fail
    refine (HT.out _ HB.out).mono ?_
    rintro e w2 ⟨rfl, hb⟩
    have HB2 := Lib.hid (HB.out.trans (hb.mono HB.out.size))
    clear hb
    go_wp2
    go_ret2
    exact ⟨rfl, HB2.out⟩
  · rw [newE_chk h1]
    obtain ⟨E, hE⟩ : ∃ E, chkT f ps = E := ⟨_, rfl⟩
    rw [hE] at HCH h1 ⊢
    have q1 : (E != 0) = true := by simpa using h1
    clear h hi he h1 hE
    go_enter Try.func8, Try.ntmps8
    go_wp2_with fail
    refine HCH.out.mono ?_
    rintro e w1 ⟨rfl, hb⟩
    have HB := Lib.hid hb
    clear hb
    go_wp2
    go_ret2
    exact ⟨rfl, HB.out⟩

set_option maxRecDepth 100000 in
set_option maxHeartbeats 2000000 in
theorem new_ok (f : Int) (v : Value) (ps : List Sp) (W : World) (h : SpansAt W v ps) (hi : IntsS ps) (he : newE f ps = 0) :
    Calls Try.prog 8 #[.int .i64 f, v] W (NewPost W (newT ps)) := by
  have HCH := Lib.hid (check_any f v ps W h hi)
  obtain ⟨h1, h2⟩ := newE_zero he
  obtain ⟨⟨_, k1⟩, k2⟩ := chk_right h1
  have htot := totT_right k1 k2 h.len
  rw [h1] at HCH
  have HT := Lib.hid (fun (w : World) (hb : Below W.heap.size W w) => total_any v ps w (h.keep hb) hi)
  rw [htot] at HT
  have hn1 := (sumP_in k2.share).1
  have q1 : decide (f < sumP ps) = false := decide_eq_false (by omega)
  have q2 : sumP ps ≤ f := h2
  obtain ⟨S, hS⟩ : ∃ S, sumP ps = S := ⟨_, rfl⟩
  have hv1 : sumV (some S) = S := rfl
  have hv2 : sumE (some S) = 0 := rfl
  rw [hS] at HT q1 q2 hn1
  rw [hv1, hv2] at HT
  have HRI := Lib.hid k2
  have HH := Lib.hid h
  obtain ⟨A, c, hv, _, _, _, _⟩ := h
  subst hv
  obtain ⟨n, hn⟩ : ∃ n, ps.length = n := ⟨_, rfl⟩
  have HN := Lib.hid hn
  rw [hn] at HCH HT HH hn1 ⊢
  have hn64 : n ≤ 64 := by omega
  have hn0 : (0 : Int) ≤ (n : Int) := by omega
  have HMK := Lib.hid (fun (W : World) => mk_members W n (by omega))
  clear h2 h1 he hi htot hS k1 k2 hv1 hv2 hn hn1
  go_enter Try.func8, Try.ntmps8
  go_wp2_with fail
  refine HCH.out.mono ?_
  rintro e w1 ⟨rfl, hb⟩
  have HB := Lib.hid hb
  clear hb
  go_wp2_with fail
  refine (HT.out _ HB.out).mono ?_
  rintro e w2 ⟨rfl, hb⟩
  have HB2 := Lib.hid (HB.out.trans (hb.mono HB.out.size))
  have hmk := HMK.out w2
  obtain ⟨b, hbs⟩ : ∃ b, w2.heap.size = b := ⟨_, rfl⟩
  obtain ⟨w3, hw3⟩ : ∃ w3, w2.alloc (.cells (rowC (List.replicate n (⟨0, 0, 0⟩ : Lm))).toArray 67) = w3 := ⟨_, rfl⟩
  have hb3 : Below w2.heap.size w2 w3 := by rw [← hw3]; exact (Below.refl _ w2).alloc (Nat.le_refl _) _
  have HB3 := Lib.hid (HB2.out.trans (hb3.mono HB2.out.size))
  have HO3 : Hid (w3.ownsRow W.heap.size 67 3 (.slice (some ⟨b, 0, none⟩) n n) n (rowC (List.replicate n (⟨0, 0, 0⟩ : Lm)))) := by
    rw [← hw3, ← hbs]
    exact own_made w2 _ _ 3 n _ (by rw [rowC_length, List.length_replicate]) HB2.out.size (by omega)
  have HBS : Hid (W.heap.size ≤ b) := by rw [← hbs]; exact HB2.out.size
  rw [hw3, hbs] at hmk
  clear hb hb3 hw3 hbs
  go_wp2_with fail
  go_loopg [10, 11, 31] n (fun gg _ _ s wr => ∃ (k : Nat) (D : List Lm), k ≤ n ∧ gg = n - k ∧ s = .int .i64 k ∧ Below W.heap.size W wr ∧ D.length = n ∧ wr.ownsRow W.heap.size 67 3 (.slice (some ⟨b, 0, none⟩) n n) n (rowC D) ∧ ∀ (j : Nat), j < k → D[j]? = (ps.map mkL)[j]?)
  case atStart => exact ⟨0, _, Nat.zero_le _, by omega, rfl, HB3.out, List.length_replicate, HO3.out, fun j hj => absurd hj (Nat.not_lt_zero _)⟩
  case round =>
    obtain ⟨k, D, hk, hg, rfl, hbw, hD, hown, hsame⟩ := hrel
    have HBW := Lib.hid hbw
    have HG := Lib.hid hg
    have HD := Lib.hid hD
    have HO := Lib.hid hown
    have HS := Lib.hid hsame
    clear hbw hg hD hown hsame hmk
    by_cases hlt : k < n
    · have hltz : (k : Int) < (n : Int) := by omega
      have hk0 : (0 : Int) ≤ (k : Int) := by omega
      obtain ⟨p, hp⟩ := ex_at (xs := ps) (k := k) (by rw [HN.out]; exact hlt)
      have HM : Hid ((ps.map mkL)[k]? = some (mkL p)) := by show _ = _; rw [List.getElem?_map, hp]; rfl
      have hu := (HRI.out.unit p (List.mem_of_getElem? hp)).1
      have hs := (HRI.out.share p (List.mem_of_getElem? hp)).1
      obtain ⟨A', c', hv', _, _, _, hat⟩ := HH.out.keep HBW.out
      injection hv' with e1 e2 e3; clear e2 e3
      subst e1
      obtain ⟨g, off, hA, hgl, hcells⟩ := hat (by rw [HN.out]; omega)
      subst hA
      obtain ⟨a0, a1⟩ := hcells k p hp
      obtain ⟨p1, p2⟩ := p
      simp only at a0 a1 hu hs HM
      obtain ⟨x1, hx1⟩ : ∃ x : Nat, p1 = (x : Int) := ⟨p1.toNat, by omega⟩
      obtain ⟨x2, hx2⟩ : ∃ x : Nat, p2 = (x : Int) := ⟨p2.toNat, by omega⟩
      subst hx1 hx2
      have HM2 : Hid ((ps.map mkL)[k]? = some ⟨x1, x2, 0⟩) := HM.out
      obtain ⟨w4, hw4⟩ : ∃ w4, wr.alloc (.cells #[.int .i64 x1, .int .i64 x2] 50) = w4 := ⟨_, rfl⟩
      obtain ⟨N, hN⟩ : ∃ N, wr.heap.size = N := ⟨_, rfl⟩
      have hb2 : Below wr.heap.size wr w4 := by rw [← hw4]; exact (Below.refl _ wr).alloc (Nat.le_refl _) _
      have n0 : w4.cell? ⟨N, 0, none⟩ = some (.int .i64 x1) := by rw [← hw4, ← hN]; exact World.cell?_alloc_new (w := wr) _ _ 0
      have n1 : w4.cell? ⟨N, 1, none⟩ = some (.int .i64 x2) := by rw [← hw4, ← hN]; exact World.cell?_alloc_new (w := wr) _ _ 1
      have HO2 := Lib.hid (own_below5 HO.out hb2)
      have HB4 := Lib.hid (HBW.out.trans (hb2.mono HBW.out.size))
      obtain ⟨q, hq⟩ := ex_at (xs := D) (k := k) (by rw [HD.out]; exact hlt)
      have hown' : w4.ownsRow W.heap.size 67 3 (.slice (some ⟨b, 0, none⟩) D.length n) D.length (rowC D) := by rw [HD.out]; exact HO2.out
      obtain ⟨g', cap', hA', _, _, _, _, hat2, hfr⟩ := own3_lies hown' (by rw [HD.out]; omega)
      injection hA' with hA' hA1 hA2; clear hA1 hA2
      injection hA' with hA'
      injection hA' with hA'
      subst hA'
      obtain ⟨t0, t1, t2⟩ := hat2 k q hq
      have f0 := hfr (k * 3)
      have f1 := hfr (k * 3 + 1)
      have f2 := hfr (k * 3 + 2)
      have HO5 : Hid ((((w4.setCell ⟨b, k * 3, none⟩ (.int .i64 x1)).setCell ⟨b, k * 3 + 1, none⟩ (.int .i64 x2)).setCell ⟨b, k * 3 + 2, none⟩ (.int .i64 0)).ownsRow W.heap.size 67 3 (.slice (some ⟨b, 0, none⟩) n n) n (rowC (D.set k ⟨x1, x2, 0⟩))) := by
        rw [← rowC_set D k q ⟨x1, x2, 0⟩ hq]
        exact ownK_set (ownK_set (ownK_set HO2.out _) _) _
      clear hb2 hp hat hat2 hfr hq hown' hcells HM
      go_wp2_with fail
      go_roundg (n - (k + 1))
      case measure => have := HG.out; omega
      case rel =>
        have hbb : W.heap.size ≤ b := HBS.out
        refine ⟨k + 1, _, Nat.succ_le_of_lt hlt, rfl, by go_num, ?_, ?_, HO5.out, same_till HS.out HM2.out (by rw [HD.out]; exact hlt)⟩
        · exact ((HB4.out.setCell (p := ⟨b, k * 3, none⟩) hbb _).setCell (p := ⟨b, k * 3 + 1, none⟩) hbb _).setCell (p := ⟨b, k * 3 + 2, none⟩) hbb _
        · rw [List.length_set]; exact HD.out
    · have hltz : ¬ (k : Int) < (n : Int) := by omega
      have hkn : k = n := by omega
      have hpl : (ps.map mkL).length = n := by rw [List.length_map]; exact HN.out
      have hDE : D = ps.map mkL := same_end (fun j hj => HS.out j (by omega)) (by rw [HD.out, hpl])
      have HSO : Hid (Calls Try.prog 26 #[.slice (some ⟨b, 0, none⟩) n n, .func (.func 27) #[] #[]] wr
          (fun e w' => e = .returned (.tuple #[]) ∧ ∃ l', l'.Perm (ps.map mkL) ∧ RiseS l' ∧ w'.ownsRow W.heap.size 67 3 (.slice (some ⟨b, 0, none⟩) n n) l'.length (rowC l') ∧ Below W.heap.size wr w')) :=
        sortM_any W.heap.size _ (ps.map mkL) wr (by rw [hpl, ← hDE]; exact HO.out) (by omega) HBW.out.size
      clear hDE hpl
      go_wp2_with fail
      refine HSO.out.mono ?_
      rintro e w5 ⟨rfl, l', q1, q2, q3, q4⟩
      have hl' : l' = newT ps := sorted_new HRI.out q2 q1
      have HB5 := Lib.hid (HBW.out.trans q4)
      rw [hl'] at q3
      have HO5 := Lib.hid q3
      have HEND : Hid (∀ e w6, w6 = w5.alloc (.cells #[.slice (some ⟨b, 0, none⟩) n n] 62) → e = .returned (.tuple #[.pointer (some ⟨w5.heap.size, 0, none⟩), .int .i64 0]) → NewPost W (newT ps) e w6) := by
        rintro e w6 rfl rfl
        have hbel : Below w5.heap.size w5 (w5.alloc (.cells #[.slice (some ⟨b, 0, none⟩) n n] 62)) := (Below.refl _ w5).alloc (Nat.le_refl _) _
        refine ⟨w5.heap.size, rfl, ⟨.slice (some ⟨b, 0, none⟩) n n, ⟨heap_alloc_new w5 _, own_mono5 (own_below5 HO5.out hbel) (Nat.zero_le _), ?_⟩, ?_⟩, HB5.out.trans (hbel.mono HB5.out.size)⟩
        · intro e
          have := own_lt HO5.out (k := w5.heap.size) e
          omega
        · rintro x (rfl | hx)
          · exact HB5.out.size
          · cases hx
            exact HBS.out
      clear q1 q2 q3 q4 hl'
      go_wp2
      go_ret2
      exact HEND.out _ _ rfl rfl
end Go.Proofs.Ytngfcgegondmgaa
