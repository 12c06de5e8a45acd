/-
  slices.Clone, slices.DeleteFunc with whatever predicate.
  Conditions: the row is of the caller's own; the predicate, whatever the world, answers so, and leaves all that was.
-/
import Derived.Test.YtiikddemjjikfaaIndex
import Derived.Lib.SliceRun
set_option linter.unusedVariables false
namespace Go.Proofs.Ytiikddemjjikfaa
open Go.RowKit

theorem setCells_block (b : Nat) : ∀ (us : List Value) (k : Nat) (W : World), (W.setCells b k us).heap.size = W.heap.size
  | [], _, _ => rfl
  | u :: r, k, W => by rw [World.setCells, setCells_block b r]; simp [World.setCell]
theorem below_setCells {B : Nat} {a : World} (b : Nat) (hb : B ≤ b) : ∀ (us : List Value) (k : Nat) (W : World), Below B a W → Below B a (W.setCells b k us)
  | [], _, _, h => h
  | u :: r, k, W, h => below_setCells b hb r (k + 1) _ (h.setCell (p := ⟨b, k, none⟩) hb u)
theorem own_short {W : World} {base e g n cap i : Nat} {xs : List Value} (h : W.ownsRow base e 2 (.slice (some ⟨g, 0, none⟩) n cap) n xs) (hi : i ≤ n) :
    W.ownsRow base e 2 (.slice (some ⟨g, 0, none⟩) i cap) i (xs.take (i * 2)) := by
  obtain ⟨h1, h2⟩ := h
  refine ⟨by rw [List.length_take]; omega, ?_⟩
  rcases h2 with ⟨h0, _⟩ | ⟨g', cap', cur, hv, hg, hh, hn, hc, hs, ht⟩
  · cases h0
  · injection hv with e1 e2 e3
    injection e1 with e1
    injection e1 with e1
    subst e1 e3
    exact .inr ⟨g, cap, cur, rfl, hg, hh, by omega, hc, hs, by rw [← ht, List.take_take, Nat.min_eq_left (by omega)]⟩
/-- The cells behind the first i spans are stored into; the slice is cut. -/
theorem own_cut {base e g n cap i : Nat} (hi : i ≤ n) : ∀ (us : List Value) (k : Nat) (W : World) (xs : List Value), i * 2 ≤ k → W.ownsRow base e 2 (.slice (some ⟨g, 0, none⟩) n cap) n xs →
    (W.setCells g k us).ownsRow base e 2 (.slice (some ⟨g, 0, none⟩) i cap) i (xs.take (i * 2))
  | [], k, W, xs, _, h => own_short h hi
  | u :: r, k, W, xs, hk, h => by
    have := own_cut hi r (k + 1) _ _ (by omega) (own_set (k := k) h u)
    rw [World.setCells]
    rwa [List.take_set_of_le hk] at this

/-- clear of a slice of spans. -/
theorem run_clear_spans {P : Program} (w : World) (t e : TypeId) (ht : P.underlying t = some (.slice e)) (hv : ∀ w, (zeroValue e).run P w = .ok (.agg #[.int .i64 0, .int .i64 0]) w) (b o n c : Nat) (hn : 0 < n)
    (hc : ∀ j, j < n * 2 → (w.cell? ⟨b, o + j, none⟩).isSome = true) (hf : ∀ j, j < n * 2 → w.frozen? ⟨b, o + j, none⟩ = false) :
    ∃ us, ∀ ty, (Builtin.clear_ #[t] ty #[.slice (some ⟨b, o, none⟩) n c]).run P w = .ok (.tuple #[]) (w.setCells b o us) := by
  have hcell : (Value.agg #[.int .i64 0, .int .i64 0]).cells = #[.int .i64 0, .int .i64 0] := rfl
  refine ⟨(Builtin.zeroCells #[.int .i64 0, .int .i64 0] n).toList, fun ty => ?_⟩
  have hlen : (Builtin.zeroCells #[.int .i64 0, .int .i64 0] n).toList.length = n * 2 := by simp [Builtin.zeroCells]
  have hst := run_storeCells_cells (P := P) b o (Builtin.zeroCells #[.int .i64 0, .int .i64 0] n).toList 0 w (by rw [hlen]; simpa using hc) (by rw [hlen]; simpa using hf) (by
    intro v hv'
    simp only [Builtin.zeroCells, Array.toList_map, List.mem_map] at hv'
    obtain ⟨i, _, rfl⟩ := hv'
    rcases Nat.mod_two_eq_zero_or_one i with h | h <;> (simp [h]; rfl))
  simp only [Nat.add_zero] at hst
  obtain ⟨m, rfl⟩ : ∃ m, n = m + 1 := ⟨n - 1, by omega⟩
  simp [Builtin.clear_, run_underlying ht, hv, hcell, hst]

/-- DeleteFunc under way: the first i spans are those that stay of the first j; from j on the row is as it was. -/
def KeptS (q : Sp → Bool) (ps dk : List Sp) (i j : Nat) : Prop :=
  i < j ∧ j ≤ ps.length ∧ dk.length = ps.length ∧ dk.take i = (ps.take j).filter q ∧ ∀ t, j ≤ t → dk[t]? = ps[t]?
theorem take_succ_of {α : Type} {l : List α} {j : Nat} {x : α} (h : l[j]? = some x) : l.take (j + 1) = l.take j ++ [x] := by
  rw [List.take_add_one, h]; rfl
theorem KeptS.start {q : Sp → Bool} {ps : List Sp} {k : Nat} {s : Sp} (hk : ps[k]? = some s) (hs : q s = false) (hall : ∀ (j : Nat) (t : Sp), j < k → ps[j]? = some t → q t = true) : KeptS q ps ps k (k + 1) := by
  have hlt : k < ps.length := (List.getElem?_eq_some_iff.1 hk).1
  refine ⟨by omega, by omega, rfl, ?_, fun t _ => rfl⟩
  rw [take_succ_of hk, List.filter_append, List.filter_eq_self.2 ?_]
  · simp [hs]
  · intro t ht
    obtain ⟨j, hj, e⟩ := List.getElem_of_mem ht
    rw [List.length_take] at hj
    refine hall j t (by omega) ?_
    rw [List.getElem_take] at e
    rw [List.getElem?_eq_getElem (by omega), e]
theorem KeptS.skip {q : Sp → Bool} {ps dk : List Sp} {i j : Nat} {s : Sp} (h : KeptS q ps dk i j) (hk : ps[j]? = some s) (hs : q s = false) : KeptS q ps dk i (j + 1) := by
  obtain ⟨h1, h2, h3, h4, h5⟩ := h
  have hlt : j < ps.length := (List.getElem?_eq_some_iff.1 hk).1
  refine ⟨by omega, by omega, h3, ?_, fun t ht => h5 t (by omega)⟩
  rw [take_succ_of hk, List.filter_append, h4]
  simp [hs]
theorem KeptS.take {q : Sp → Bool} {ps dk : List Sp} {i j : Nat} {s : Sp} (h : KeptS q ps dk i j) (hk : ps[j]? = some s) (hs : q s = true) : KeptS q ps (dk.set i s) (i + 1) (j + 1) := by
  obtain ⟨h1, h2, h3, h4, h5⟩ := h
  have hlt : j < ps.length := (List.getElem?_eq_some_iff.1 hk).1
  refine ⟨by omega, by omega, by rw [List.length_set]; exact h3, ?_, fun t ht => ?_⟩
  · rw [take_succ_of hk, List.filter_append, ← h4, take_succ_of (x := s) (by rw [List.getElem?_set]; simp; omega), List.take_set_of_le (Nat.le_refl _)]
    simp [hs]
  · rw [List.getElem?_set, if_neg (by omega)]
    exact h5 t (by omega)
theorem KeptS.at_ {q : Sp → Bool} {ps dk : List Sp} {i j : Nat} (h : KeptS q ps dk i j) : dk[j]? = ps[j]? := h.2.2.2.2 j (Nat.le_refl _)
theorem KeptS.done {q : Sp → Bool} {ps dk : List Sp} {i : Nat} (h : KeptS q ps dk i ps.length) : dk.take i = ps.filter q := by
  have := h.2.2.2.1
  rwa [List.take_length] at this
theorem spansCells_take : ∀ (ps : List Sp) (i : Nat), (spansCells ps).take (i * 2) = spansCells (ps.take i)
  | [], i => by simp [spansCells]
  | p :: ps, 0 => by simp [spansCells]
  | p :: ps, i + 1 => by
    rw [spansCells_cons, show (i + 1) * 2 = i * 2 + 1 + 1 by omega, List.take_succ_cons, List.take_succ_cons, spansCells_take ps i, List.take_succ_cons, spansCells_cons]

/-- slices.Clone. -/
theorem clone_any (v : Value) (ps : List Sp) (w : World) (h : SpansAt w v ps) :
    Calls Try.prog 30 #[v] w (RetO w.heap.size 38 ps w) := by
  obtain ⟨i0, hi, hz0, hz1, hz2⟩ := info_parts Try.infoSpan
  have hsp := h
  obtain ⟨A, c, rfl, hc1, hlen, hc2, hat⟩ := h
  have u24 := Try.underlying30
  cases A with
  | none =>
    have h0 : ps = [] := by
      rcases Nat.eq_zero_or_pos ps.length with h | h
      · exact List.eq_nil_of_length_eq_zero h
      · obtain ⟨b, off, e, _⟩ := hat h; cases e
    subst h0
    clear hat hsp
    have q22 : ∀ (w : World) (n c n' c' : Nat), (binOp .eql 30 (.slice none n c) (.slice none n' c')).run Try.prog w = .ok (.bool true) w := fun w n c n' c' => Lib.run_eql_slice_nil w _ _ none n c n' c' u24
    go_enter Try.func30, Try.ntmps30
    go_wp2
    go_ret
    exact ⟨_, rfl, World.ownsRow_nil _ _ _ _, Below.refl _ _⟩
  | some a =>
    have HAT := Lib.hid hat
    have HLEN := Lib.hid (spansCells_length ps)
    have hnews : Hid (∀ j u, (spansCells ps)[j]? = some u → w.cell? (a.add j) = some u) := by
      intro j u hj
      have hp : 0 < ps.length := by
        have := (List.getElem?_eq_some_iff.1 hj).1
        rw [spansCells_length] at this; omega
      obtain ⟨b, off, e, hbl, hcell⟩ := hat hp
      cases e
      have := spansCells_of hcell j u hj
      rw [Addr.add_lit]
      exact this
    have HONE := Lib.hid (spansCells_one ps)
    generalize hn : ps.length = n at *
    generalize hcs : spansCells ps = cs at *
    have q22 : ∀ (w : World) (n c n' c' : Nat), (binOp .eql 30 (.slice (some a) n c) (.slice none n' c')).run Try.prog w = .ok (.bool false) w := fun w n c n' c' => Lib.run_eql_slice_nil w _ _ (some a) n c n' c' u24
    have HO0 : Hid ((w.alloc (Obj.cells #[] 38)).ownsRow w.heap.size 38 2 (.slice (some ⟨w.heap.size, 0, none⟩) 0 0) 0 []) :=
      ⟨rfl, .inr ⟨w.heap.size, 0, #[], rfl, Nat.le_refl _, heap_alloc_new w _, Nat.le_refl _, Nat.zero_le _, rfl, rfl⟩⟩
    have HN := Lib.hid hn
    have HCS := Lib.hid hcs
    clear hat hsp hn hcs
    go_enter Try.func30, Try.ntmps30
    go_wp2_with (at_builtin; refine wpList_append_own _ rfl _ _ 30 rfl w.heap.size 38 i0 (.agg #[.int .i64 0, .int .i64 0]) 2 16 Try.underlying30 hi hz0 hz1 hz2 rfl (by decide) _ _ _ rfl HO0.out a n c cs rfl ?c0 ?c1 ?c2 ?c3 ?c4 ?c5 ?_)
    case c0 => exact HLEN.out
    case c1 =>
      intro j u hj
      have := hnews.out j u hj
      rw [Lib.cell?_alloc_some _ this]
    case c2 => exact HONE.out
    case c3 => unfold maxLen; omega
    case c4 => omega
    case c5 => simp
    intro v2 w2 hown2 hgrow _
    have HB2 := Lib.hid (((Below.refl _ w).alloc (Nat.le_refl _) (Obj.cells #[] 38)).trans (below_grown5 hgrow (by simp) (own_base5 HO0.out)))
    have HO2 := Lib.hid hown2
    clear hown2 hgrow
    go_wp2
    go_ret
    refine ⟨_, rfl, ?_, HB2.out⟩
    rw [HN.out, HCS.out]
    exact HO2.out

set_option maxRecDepth 100000 in
set_option maxHeartbeats 4000000 in
/-- slices.DeleteFunc with whatever predicate: those at which it holds are removed. -/
theorem delete_any (g0 : Nat) (lb : Array Value) (eg : ∀ args w, (callFunc g0 args).run Try.prog w = .ok (.enter g0 args) w) (q : Sp → Bool) (base : Nat) (v : Value) (ps : List Sp) (w : World)
    (hp : ∀ (W : World) (x : Sp), Below base w W → base ≤ W.heap.size → Calls Try.prog g0 (#[.agg #[.int .i64 x.1, .int .i64 x.2]] ++ lb) W (RetB (.bool (!q x)) W)) (h : w.ownsRow base 38 2 v ps.length (spansCells ps)) (hl : ps.length ≤ 100000) (hbase : base ≤ w.heap.size) :
    Calls Try.prog 36 #[v, .func (.func g0) #[] lb] w (RetO base 38 (ps.filter q) w) := by
  have HI := Lib.hid (index_any g0 lb eg (fun s => !q s) v ps w (fun W x hb => hp W x (hb.mono hbase) (Nat.le_trans hbase hb.size)) (spans_of_own h hl))
  have HO := Lib.hid h
  have HE := Lib.hid hp
  clear hp
  rcases Nat.eq_zero_or_pos ps.length with h0 | hpos
  · have : ps = [] := List.eq_nil_of_length_eq_zero h0
    subst this
    clear h
    go_enter Try.func36, Try.ntmps36
    go_wp2_with (go_at_call 33; refine HI.out.mono ?_; rintro e w' ⟨r, rfl, hr, hb⟩; obtain rfl : r = -1 := (by rcases hr with ⟨h, _⟩ | ⟨k, s, _, h, _⟩; exact h; simp at h))
    go_ret
    exact ⟨_, rfl, own_below5 HO.out hb, hb.mono hbase⟩
  · obtain ⟨g, cap, rfl, hbg, hgl, hncap, hcm, _, _⟩ := own_lies h hpos
    clear h
    have hcm' : cap ≤ 9223372036854775807 := by unfold maxLen at hcm; omega
    go_enter Try.func36, Try.ntmps36
    go_wp2_with fail
    refine HI.out.mono ?_
    rintro e w1 ⟨r, rfl, hr, hb⟩
    have HB1 := Lib.hid (hb.mono hbase)
    have HO1 := Lib.hid (own_below5 HO.out hb)
    rcases hr with ⟨rfl, hall⟩ | ⟨k, s, rfl, hk, hs, hall⟩
    · have HF := Lib.hid (show ps.filter q = ps from List.filter_eq_self.2 (fun s hs => by simpa using hall s hs))
      clear hall hb
      go_wp2
      go_ret
      refine ⟨_, rfl, ?_, HB1.out⟩
      rw [HF.out]
      exact HO1.out
    · have HK := Lib.hid (KeptS.start hk (by simpa using hs) (fun j t hj ht => by simpa using hall j t hj ht))
      have hklt : k < ps.length := (List.getElem?_eq_some_iff.1 hk).1
      have hsz := hb.size
      generalize hn : ps.length = n at *
      have HN := Lib.hid hn
      have HL1 := Lib.hid (show g < w1.heap.size by omega)
      have hne1 : ((k : Int) == -1) = false := beq_eq_false_iff_ne.2 (by omega)
      clear hall hk hs hb hn
      go_wp2_with fail
      go_loopg [5, 6, 7] (n - (k + 1)) (fun gg s5 s6 _ wr => ∃ (i j : Nat) (dk : List Sp), gg = n - j ∧ s5 = .int .i64 i ∧ s6 = .int .i64 j ∧ j ≤ n ∧ Below base w wr ∧ g < wr.heap.size ∧ KeptS q ps dk i j ∧
        wr.ownsRow base 38 2 (.slice (some ⟨g, 0, none⟩) n cap) n (spansCells dk))
      case atStart => exact ⟨k, k + 1, ps, by omega, rfl, by go_num, by omega, HB1.out, HL1.out, HK.out, HO1.out⟩
      case round =>
        obtain ⟨i, j, dk, hgg, rfl, rfl, hjn, hbw, hgw, hkk, hown⟩ := hrel
        have HG := Lib.hid hgg
        have HB := Lib.hid hbw
        have HGW := Lib.hid hgw
        have HKK := Lib.hid hkk
        have HOW := Lib.hid hown
        have hij : i < j := hkk.1
        have hdl : dk.length = n := by rw [hkk.2.2.1, HN.out]
        have hbz : base ≤ wr.heap.size := by omega
        clear hgg hbw hkk hown
        by_cases hlt : j < n
        · have hltz : (j : Int) < (n : Int) := by omega
          obtain ⟨y, hy⟩ := ex_at (xs := ps) (k := j) (by rw [HN.out]; exact hlt)
          have hdy : dk[j]? = some y := by rw [HKK.out.at_]; exact hy
          obtain ⟨g', cap', hv, _, _, _, _, hat, hfr⟩ := own_lies (by rw [hdl]; exact HOW.out) (by rw [hdl]; omega)
          rw [hdl] at hv
          injection hv with e1 _ e3
          injection e1 with e1
          injection e1 with e1
          subst e1 e3
          obtain ⟨c1, c2⟩ := hat j y hdy
          obtain ⟨z, hz⟩ := ex_at (xs := dk) (k := i) (by omega)
          obtain ⟨d1, d2⟩ := hat i z hz
          have f1 := hfr (i * 2) (by omega)
          have f2 := hfr (i * 2 + 1) (by omega)
          have HCALL := Lib.hid (fun W => HE.out W y)
          have HY := Lib.hid hy
          have HZ := Lib.hid hz
          have hbelow : ∀ (a : Sp) (W : World), Below base w W → base ≤ W.heap.size → True := fun _ _ _ _ => trivial
          clear hat hfr hy hdy hz hbelow
          cases hqy : q y
          · rw [hqy] at HCALL
            have HQ := Lib.hid hqy
            clear hqy
            obtain ⟨y1, y2⟩ := y
            obtain ⟨z1, z2⟩ := z
            simp only at c1 c2 d1 d2
            go_wp2_with (go_at_fn g0; refine (HCALL.out _ (HB.out.alloc hbz _) (by simp; omega)).mono ?_; rintro e w' ⟨rfl, hb'⟩)
            go_roundg (n - (j + 1))
            case measure => have := HG.out; omega
            case rel =>
              have key : Below wr.heap.size wr w' := ((Below.refl _ wr).alloc (Nat.le_refl _) _).trans (hb'.mono (by simp))
              exact ⟨i, j + 1, dk, rfl, rfl, by go_num, by omega, HB.out.trans (key.mono hbz), by have := key.size; omega, HKK.out.skip HY.out HQ.out, own_below5 HOW.out key⟩
          · rw [hqy] at HCALL
            have HQ := Lib.hid hqy
            clear hqy
            obtain ⟨y1, y2⟩ := y
            obtain ⟨z1, z2⟩ := z
            simp only at c1 c2 d1 d2
            go_wp2_with (go_at_fn g0; fail)
            go_at_fn g0
            refine (HCALL.out _ (HB.out.alloc hbz _) (by simp; omega)).mono ?_
            rintro e w' ⟨rfl, hb'⟩
            have key : Below wr.heap.size wr w' := ((Below.refl _ wr).alloc (Nat.le_refl _) _).trans (hb'.mono (by simp))
            have v1 : w'.cell? ⟨wr.heap.size, 0, none⟩ = some (.int .i64 y1) := (hb'.cell (p := ⟨wr.heap.size, 0, none⟩) (by simp)).trans (by simp)
            have v2 : w'.cell? ⟨wr.heap.size, 1, none⟩ = some (.int .i64 y2) := (hb'.cell (p := ⟨wr.heap.size, 1, none⟩) (by simp)).trans (by simp)
            have d1' := (key.cell (p := ⟨g, i * 2, none⟩) hgw).trans d1
            have d2' := (key.cell (p := ⟨g, i * 2 + 1, none⟩) hgw).trans d2
            have f1' := (key.frozen (p := ⟨g, i * 2, none⟩) hgw).trans f1
            have f2' := (key.frozen (p := ⟨g, i * 2 + 1, none⟩) hgw).trans f2
            have HKEY := Lib.hid key
            have hilt : (i : Int) < (n : Int) := by omega
            have hne : g ≠ wr.heap.size := by omega
            clear key hb' d1 d2 f1 f2 c1 c2
            go_wp2
            go_roundg (n - (j + 1))
            case measure => have := HG.out; omega
            case rel =>
              refine ⟨i + 1, j + 1, dk.set i (y1, y2), rfl, by go_num, by go_num, by omega, ?_, ?_, HKK.out.take HY.out HQ.out, ?_⟩
              · exact ((HB.out.trans (HKEY.out.mono hbz)).setCell (p := ⟨g, i * 2, none⟩) hbg _).setCell (p := ⟨g, i * 2 + 1, none⟩) hbg _
              · have := HKEY.out.size
                simp [World.setCell]
                omega
              · rw [← spansCells_set dk i (z1, z2) (y1, y2) HZ.out]
                exact own_set (own_set (own_below5 HOW.out HKEY.out) _) _
        · have hltz : ¬ (j : Int) < (n : Int) := by omega
          have hjn' : j = n := by omega
          subst hjn'
          obtain ⟨g', cap', hv, _, _, _, _, hat, hfr⟩ := own_lies (by rw [hdl]; exact HOW.out) (by rw [hdl]; omega)
          rw [hdl] at hv
          injection hv with e1 _ e3
          injection e1 with e1
          injection e1 with e1
          subst e1 e3
          have hcl : ∃ us, ∀ ty, (Builtin.clear_ #[30] ty #[.slice (some ⟨g, i * 2, none⟩) (j - i) (cap - i)]).run Try.prog wr = .ok (.tuple #[]) (wr.setCells g (i * 2) us) :=
            run_clear_spans wr _ _ Try.underlying30 Try.zeroValue38 g (i * 2) (j - i) (cap - i) (by omega) (fun t ht => by
              rw [show i * 2 + t = (i + t / 2) * 2 + t % 2 by omega]
              obtain ⟨p, hp⟩ := ex_at (xs := dk) (k := i + t / 2) (by omega)
              obtain ⟨q1, q2⟩ := hat _ p hp
              rcases Nat.mod_two_eq_zero_or_one t with h | h
              · rw [h, Nat.add_zero, q1]; rfl
              · rw [h, q2]; rfl) (fun t ht => hfr _ (by omega))
          clear hat hfr
          obtain ⟨us, hus⟩ : ∃ us, ∀ ty, (Builtin.clear_ #[30] ty #[.slice (some ⟨g, i * 2, none⟩) (j - i) (cap - i)]).run Try.prog wr = .ok (.tuple #[]) (wr.setCells g (i * 2) us) := hcl
          go_wp2
          go_ret
          refine ⟨_, rfl, ?_, below_setCells g hbg us _ _ HB.out⟩
          have h := own_cut (Nat.le_of_lt hij) us (i * 2) wr (spansCells dk) (Nat.le_refl _) HOW.out
          have hd : dk.take i = ps.filter q := by
            have := HKK.out
            rw [← HN.out] at this
            exact this.done
          rw [spansCells_take, hd] at h
          have hlen : (ps.filter q).length = i := by rw [← hd, List.length_take]; omega
          rw [hlen]
          exact h
end Go.Proofs.Ytiikddemjjikfaa
