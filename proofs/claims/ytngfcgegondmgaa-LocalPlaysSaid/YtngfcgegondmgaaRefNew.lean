/-
  The document's New.
  Conditions: the numbers are none below 0.
-/
import Derived.Test.YtngfcgegondmgaaRefDrop
set_option linter.unusedVariables false
set_option linter.unusedSimpArgs false
namespace Go.Proofs.Ytngfcgegondmgaa
open Go.RowKit

/-- Nothing is appended to a row of the call's own: from a nil slice, whatever it says of its room. -/
theorem wpList_append_none5 {P : Program} {w : World} {ops : Array Oper} {rest : List Oper} {o : Oper} {a : Act} {Q : Exit → Act → World → Prop} (hgd : o.guard = none) (s x : Operand) (t : TypeId)
    (ho : o.op = .call { callee := .builtin .append, args := #[s, x], argTypes := #[t, t] })
    (base : Nat) (e : TypeId) (i : TypeInfo) (size : Nat) (ht : P.underlying t = some (.slice e)) (hi : P.info? e = some i)
    (v : Value) (n : Nat) (xs : List Value) (hs : a.eval s = v) (hown : w.ownsRow base e size v n xs) (c : Nat) (hx : a.eval x = .slice none 0 c)
    (h : wpList P ops Q rest (a.put o.dst v) w) : wpList P ops Q (o :: rest) a w := by
  refine wpList_plain hgd fun K hK => ?_
  have hrun : (Builtin.append_ #[t, t] o.type #[v, .slice none 0 c]).run P w = .ok v w := by
    rcases hown.2 with ⟨rfl, rfl⟩ | ⟨g, cap, cur, rfl, _, _, hnc, _⟩
    · simp [Builtin.append_, run_underlying ht, sizeOf, typeInfo, hi, Builtin.lenOf, Builtin.firstCells]
    · simp [Builtin.append_, run_underlying ht, sizeOf, typeInfo, hi, Builtin.lenOf, Builtin.firstCells, hnc, storeCells]
  unfold Oper.wp
  simp [execOp, ho, resolve, invoke, builtin, hs, hx, hrun, Result.andThen]
  exact hK _ _ h

/-- The block of the answer, and that of the local that grows. -/
structure Duo (W w : World) (N : Nat) (y z : Value) : Prop where
  res : w.heap[N]? = some (.cells #[.slice none 0 0, .slice none 0 0] 32 (0, 0))
  own : w.heap[N + 1]? = some (.cells #[y, z] 32 (0, 0))
  bel : Below W.heap.size W w
  n : W.heap.size = N
theorem Duo.lt {W w : World} {N : Nat} {y z : Value} (h : Duo W w N y z) : N + 1 < w.heap.size := heap_lt h.own
theorem Duo.keep {W w w' : World} {N : Nat} {y z : Value} (h : Duo W w N y z) (hb : Below (N + 2) w w') : Duo W w' N y z := by
  have hn := h.n
  exact ⟨(hb.block N (by omega)).trans h.res, (hb.block (N + 1) (by omega)).trans h.own, h.bel.trans (hb.mono (by omega)), hn⟩
theorem Duo.set0 {W w : World} {N : Nat} {y z : Value} (h : Duo W w N y z) (x : Value) : Duo W (w.setCell ⟨N + 1, 0, none⟩ x) N x z := by
  have hn := h.n
  exact ⟨(Below.heap_setCell _ _ _ _ (show N ≠ N + 1 by omega)).trans h.res, heap_setCell_mem _ _ _ _ _ _ _ h.own, h.bel.setCell (p := ⟨N + 1, 0, none⟩) (by show _ ≤ N + 1; omega) _, hn⟩
theorem Duo.set1 {W w : World} {N : Nat} {y z : Value} (h : Duo W w N y z) (x : Value) : Duo W (w.setCell ⟨N + 1, 1, none⟩ x) N y x := by
  have hn := h.n
  exact ⟨(Below.heap_setCell _ _ _ _ (show N ≠ N + 1 by omega)).trans h.res, heap_setCell_mem _ _ _ _ _ _ _ h.own, h.bel.setCell (p := ⟨N + 1, 1, none⟩) (by show _ ≤ N + 1; omega) _, hn⟩
theorem Duo.done {W w : World} {N : Nat} {y z : Value} {l : List Lm} (h : Duo W w N y z) (hr : RefOwn w y z l) :
    ((w.setCell ⟨N, 0, none⟩ y).setCell ⟨N, 1, none⟩ z).heap[N]? = some (.cells #[y, z] 32 (0, 0)) ∧
    RefOwn ((w.setCell ⟨N, 0, none⟩ y).setCell ⟨N, 1, none⟩ z) y z l ∧ Below W.heap.size W ((w.setCell ⟨N, 0, none⟩ y).setCell ⟨N, 1, none⟩ z) := by
  have hn := h.n
  have h1 := heap_setCell_mem _ _ 0 _ _ _ y h.res
  refine ⟨heap_setCell_mem _ _ _ _ _ _ _ h1, (hr.set (o := 0) h.res (by decide) (by decide) y).set (o := 1) h1 (by decide) (by decide) z, ?_⟩
  exact (h.bel.setCell (p := ⟨N, 0, none⟩) (by show _ ≤ N; omega) _).setCell (p := ⟨N, 1, none⟩) (by show _ ≤ N; omega) _
/-- Rows of the call's own from base on. -/
structure Rows2 (w : World) (base : Nat) (y z : Value) (n : Nat) (l : List Lm) : Prop where
  ws : w.ownsRow base 50 2 y n (spansCells (wantsT l))
  gs : w.ownsRow base 3 1 z n (gC l)

/-- Where a member goes: ahead of the first one whose unit is not less. -/
def FirstU (x : Lm) (l : List Lm) (k : Nat) : Prop := k ≤ l.length ∧ (∀ (j : Nat) (m : Lm), j < k → l[j]? = some m → m.u < x.u) ∧ ∀ m, l[k]? = some m → ¬ m.u < x.u
theorem insU_at (x : Lm) : ∀ {l : List Lm} {k : Nat}, FirstU x l k → insU x l = l.take k ++ [x] ++ l.drop k
  | [], k, h => by
    have : k = 0 := by simpa using h.1
    subst this
    rfl
  | y :: r, 0, h => by
    have hx := h.2.2 y rfl
    unfold insU
    rw [if_neg hx]
    rfl
  | y :: r, k + 1, h => by
    have hx := h.2.1 0 y (by omega) rfl
    unfold insU
    rw [if_pos hx]
    have ih := insU_at x (l := r) (k := k) ⟨by have := h.1; simp at this; omega, fun j m hj hm => h.2.1 (j + 1) m (by omega) (by simpa using hm), fun m hm => h.2.2 m (by simpa using hm)⟩
    rw [ih]
    rfl
theorem gC_new (ps : List Sp) : gC (newT ps) = List.replicate ps.length (.int .i64 0) := by
  have hz : ∀ m ∈ newT ps, m.g = 0 := fun m hm => by
    obtain ⟨p, _, rfl⟩ := List.mem_map.1 ((newT_perm ps).mem_iff.1 hm)
    rfl
  rw [← newT_len ps]
  unfold gC
  generalize newT ps = l at hz
  induction l with
  | nil => rfl
  | cons m l ih =>
    rw [List.map_cons, List.length_cons, List.replicate_succ, ih fun x hx => hz x (List.mem_cons_of_mem _ hx), hz m List.mem_cons_self]
    rfl
theorem new_take {ps : List Sp} {i : Nat} {p : Sp} (h : ps[i]? = some p) : newT (ps.take (i + 1)) = insU (mkL p) (newT (ps.take i)) := by
  rw [take_succ_of h, newT_snoc]
theorem spansCells_drop : ∀ (ps : List Sp) (i : Nat), (spansCells ps).drop (i * 2) = spansCells (ps.drop i)
  | [], i => by simp [spansCells]
  | p :: ps, 0 => by simp [spansCells]
  | p :: ps, i + 1 => by
    rw [spansCells_cons, show (i + 1) * 2 = i * 2 + 1 + 1 by omega, List.drop_succ_cons, List.drop_succ_cons, spansCells_drop ps i, List.drop_succ_cons]
theorem wants_ins {l : List Lm} {x : Lm} {k : Nat} (h : FirstU x l k) : spansCells (wantsT (insU x l)) = (spansCells (wantsT l)).take (k * 2) ++ [.int .i64 x.u, .int .i64 x.s] ++ (spansCells (wantsT l)).drop (k * 2) := by
  rw [insU_at x h, spansCells_take, spansCells_drop]
  unfold wantsT
  rw [List.map_append, List.map_append, spansCells_append, spansCells_append, List.map_take, List.map_drop]
  rfl
/-- The cells of a part of a row, in a later world. -/
theorem row_part {W W2 : World} {g n c base e : Nat} {xs : List Value} (h : W.ownsRow base e 2 (.slice (some ⟨g, 0, none⟩) n c) n xs) (hb : Below W.heap.size W W2) (k : Nat) :
    ∀ j u, (xs.drop (k * 2))[j]? = some u → W2.cell? ((⟨g, k * 2, none⟩ : Addr).add j) = some u := fun j u hj => by
  rw [List.getElem?_drop] at hj
  have := (own_below5 h hb).cells (g := g) rfl _ _ hj
  rw [Addr.add_lit] at this ⊢
  rwa [Nat.zero_add] at this
theorem row_head {W W2 : World} {g n c base e : Nat} {xs : List Value} (h : W.ownsRow base e 2 (.slice (some ⟨g, 0, none⟩) n c) n xs) (hb : Below W.heap.size W W2) (k : Nat) :
    ∀ j u, (xs.take (k * 2))[j]? = some u → W2.cell? ((⟨g, 0, none⟩ : Addr).add j) = some u := fun j u hj => by
  rw [List.getElem?_take] at hj
  split at hj
  · exact (own_below5 h hb).cells (g := g) rfl _ _ hj
  · cases hj
theorem one_part {xs : List Value} (h : ∀ u ∈ xs, u.oneCell' = true) (k : Nat) : (∀ u ∈ xs.take k, u.oneCell' = true) ∧ ∀ u ∈ xs.drop k, u.oneCell' = true :=
  ⟨fun u hu => h u (List.mem_of_mem_take hu), fun u hu => h u (List.mem_of_mem_drop hu)⟩

set_option maxRecDepth 100000 in
set_option maxHeartbeats 4000000 in
theorem refNew_any (W : World) (v : Value) (ps : List Sp) (h : SpansAt W v ps) (hl : ps.length ≤ 1000) (hp : ∀ p ∈ ps, 0 ≤ p.1 ∧ 0 ≤ p.2) :
    Calls Try.prog 11 #[v] W (RefPost W (newT ps)) := by
  have HH := Lib.hid h
  have HP := Lib.hid hp
  obtain ⟨A, c, hv, _, _, _, hat⟩ := h
  subst hv
  obtain ⟨n, hn⟩ : ∃ n, ps.length = n := ⟨_, rfl⟩
  have HN := Lib.hid hn
  obtain ⟨N, hN⟩ : ∃ N, W.heap.size = N := ⟨_, rfl⟩
  obtain ⟨w1, hw1⟩ : ∃ w1, W.alloc (.cells #[.slice none 0 0, .slice none 0 0] 32) = w1 := ⟨_, rfl⟩
  have hb1 : Below W.heap.size W w1 := by rw [← hw1]; exact (Below.refl _ W).alloc (Nat.le_refl _) _
  have hs1 : w1.heap.size = N + 1 := by rw [← hw1]; simp [hN]
  obtain ⟨w2, hw2⟩ : ∃ w2, w1.alloc (.cells #[.slice none 0 0, .slice none 0 0] 32) = w2 := ⟨_, rfl⟩
  have hb2 : Below w1.heap.size w1 w2 := by rw [← hw2]; exact (Below.refl _ w1).alloc (Nat.le_refl _) _
  have h1 : w1.heap[N]? = some (.cells #[.slice none 0 0, .slice none 0 0] 32 (0, 0)) := by rw [← hw1]; exact alloc_block W _ hN
  have h2 : Duo W w2 N (.slice none 0 0) (.slice none 0 0) := ⟨keep_block h1 hb2, by rw [← hw2]; exact alloc_block w1 _ hs1, hb1.trans (hb2.mono hb1.size), hN⟩
  obtain ⟨s0, s1, s2, s3⟩ := two_heads h2.own
  have h3 := (h2.set0 (.slice none 0 0)).set1 (.slice none 0 0)
  obtain ⟨w3, hw3⟩ : ∃ w3, (w2.setCell ⟨N + 1, 0, none⟩ (.slice none 0 0)).setCell ⟨N + 1, 1, none⟩ (.slice none 0 0) = w3 := ⟨_, rfl⟩
  rw [hw3] at h3
  have HD3 := Lib.hid h3
  have HR3 : Hid (Rows2 w3 (N + 2) (.slice none 0 0) (.slice none 0 0) 0 (newT (ps.take 0))) := ⟨World.ownsRow_nil _ _ _ _, World.ownsRow_nil _ _ _ _⟩
  obtain ⟨i0, hi, hz0, hz1, hz2⟩ := info_parts Try.infoInt
  obtain ⟨j0, hj, hy0, hy1, hy2⟩ := info_parts Try.infoSpan
  have mixed : Try.prog.follows .mixedOrders = true := by kernel_rfl
  rw [hn] at HH hl ⊢
  clear hn h1 h2 h3 hb1 hb2 hat hp
  go_enter Try.func11, Try.ntmps11
  go_wp2_with fail
  clear hw1 hw2 hw3 hs1 s0 s1 s2 s3 hN
  go_loopg [4, 5, 6] n (fun gg s _ _ wr => ∃ (i : Nat) (y z : Value), i ≤ n ∧ gg = n - i ∧ s = .int .i64 i ∧ Duo W wr N y z ∧ Rows2 wr (N + 2) y z i (newT (ps.take i)) ∧ (i = 0 → y = .slice none 0 0))
  case atStart => exact ⟨0, _, _, Nat.zero_le _, by omega, rfl, HD3.out, HR3.out, fun _ => rfl⟩
  case round =>
    obtain ⟨i, y, z, hin, hg, rfl, hd, hr, hyn⟩ := hrel
    have HYN := Lib.hid hyn
    have HG := Lib.hid hg
    have HD := Lib.hid hd
    have HR := Lib.hid hr
    clear hg hd hr hyn
    by_cases hlt : i < n
    · have hltz : (i : Int) < (n : Int) := by omega
      have hi0 : (0 : Int) ≤ (i : Int) := by omega
      obtain ⟨p, hpi⟩ := ex_at (xs := ps) (k := i) (by rw [HN.out]; exact hlt)
      have hp0 := HP.out p (List.mem_of_getElem? hpi)
      have HNT := Lib.hid (new_take hpi)
      obtain ⟨A', c', hv', _, _, _, hat⟩ := HH.out
      injection hv' with e1 e2 e3; clear e2 e3
      subst e1
      obtain ⟨b, off, hA, hbl, hcells⟩ := hat (by rw [HN.out]; omega)
      subst hA
      obtain ⟨p1, p2⟩ := p
      simp only at hp0 HNT
      obtain ⟨x1, hx1⟩ : ∃ x : Nat, p1 = (x : Int) := ⟨p1.toNat, by omega⟩
      obtain ⟨x2, hx2⟩ : ∃ x : Nat, p2 = (x : Int) := ⟨p2.toNat, by omega⟩
      subst hx1 hx2
      have emk : mkL ((x1 : Int), (x2 : Int)) = ⟨x1, x2, 0⟩ := rfl
      rw [emk] at HNT
      have HARG : Hid (∀ w', Below W.heap.size W w' → w'.cell? ⟨b, off + i * 2, none⟩ = some (.int .i64 x1) ∧ w'.cell? ⟨b, off + i * 2 + 1, none⟩ = some (.int .i64 x2) ∧ b < w'.heap.size) := fun w' hb => by
        obtain ⟨k0, k1⟩ := (hcells i _ hpi).keep hb hbl
        exact ⟨k0, k1, Nat.lt_of_lt_of_le hbl hb.size⟩
      have HLL : Hid ((newT (ps.take i)).length = i) := by show _ = _; rw [newT_len, List.length_take, HN.out]; omega
      have HGZ : Hid (gC (newT (ps.take (i + 1))) = gC (newT (ps.take i)) ++ [.int .i64 0]) := by
        show _ = _
        rw [gC_new, gC_new, List.length_take, List.length_take, HN.out, show min (i + 1) n = i + 1 by omega, show min i n = i by omega, List.replicate_succ']
      obtain ⟨lc, hlc⟩ : ∃ lc, newT (ps.take i) = lc := ⟨_, rfl⟩
      rw [hlc] at HNT HLL HGZ HR
      obtain ⟨A1, c1, hy⟩ := own_form HR.out.ws
      obtain ⟨B1, d1, hz⟩ := own_form HR.out.gs
      subst hy hz
      clear hcells hpi hp0 hbl hat hlc emk
      have hi1000 : (i : Int) ≤ 1000 := by omega
      go_wp2_with fail
      go_loopg [5] i (fun gg s wr2 => ∃ k : Nat, k ≤ i ∧ gg = i - k ∧ s = .int .i64 k ∧ Below wr.heap.size wr wr2 ∧ ∀ (j : Nat) (m : Lm), j < k → lc[j]? = some m → m.u < x1)
      case atStart => exact ⟨0, Nat.zero_le _, by omega, rfl, Below.refl _ _, fun j m hj => absurd hj (Nat.not_lt_zero _)⟩
      case round =>
        obtain ⟨k, hki, hg2, rfl, hb2, hall⟩ := hrel
        have HG2 := Lib.hid hg2
        have HB2 := Lib.hid hb2
        have HALL := Lib.hid hall
        have HD2 := Lib.hid (HD.out.keep (hb2.mono HD.out.lt))
        have HW2 := Lib.hid (own_below5 HR.out.ws hb2)
        have HZ2 := Lib.hid (own_below5 HR.out.gs hb2)
        obtain ⟨a0, a1, hbl⟩ := HARG.out _ HD2.out.bel
        obtain ⟨r0, r1, r2, r3⟩ := two_heads HD2.out.own
        have hk0 : (0 : Int) ≤ (k : Int) := by omega
        clear hg2 hb2 hall
        by_cases hlt2 : k < i
        · have hltz2 : (k : Int) < (i : Int) := by omega
          obtain ⟨m, hm⟩ := ex_at (xs := lc) (k := k) (by rw [HLL.out]; exact hlt2)
          have HW2' : Hid (RowW wr (.slice A1 i c1) lc) := by
            show World.ownsRow _ 0 _ 2 _ lc.length _
            rw [HLL.out]
            exact own_mono5 HW2.out (Nat.zero_le _)
          obtain ⟨g, cap, hA, hgl, hcap, _, c0, _⟩ := rowW_at HW2'.out hm
          rw [HLL.out] at hcap
          injection hA with hA hA1 hA3
          clear hA1
          subst hA hA3
          have HM := Lib.hid hm
          by_cases hu : m.u < x1
          · have t1 : (m.u : Int) < (x1 : Int) := by omega
            have HU := Lib.hid hu
            clear hm hu
            obtain ⟨m1, m2, m3⟩ := m
            simp only at c0 t1 HU
            go_wp2_with fail
            go_quiet (fail)
            go_wp2_with fail
            go_roundg (i - (k + 1))
            case measure => have := HG2.out; omega
            case rel =>
              refine ⟨k + 1, by omega, rfl, by go_num, below_drewN HB2.out nq, fun j m hj hm => ?_⟩
              by_cases e : j = k
              · subst e
                have := HM.out
                rw [this] at hm
                rw [← Option.some.inj hm]
                exact HU.out
              · exact HALL.out j m (by omega) hm
          · have t1 : ¬ (m.u : Int) < (x1 : Int) := by omega
            have t2 : decide (m.u < x1) = false := decide_eq_false hu
            have t3 : decide ((m.u : Int) < (x1 : Int)) = false := decide_eq_false t1
            have HFU : Hid (FirstU ⟨x1, x2, 0⟩ lc k) := ⟨by rw [HLL.out]; omega, HALL.out, fun m' hm' => by
              rw [hm] at hm'
              rw [← Option.some.inj hm']
              exact hu⟩
            clear hm hu
            obtain ⟨m1, m2, m3⟩ := m
            simp only at c0 t1 t2 t3
            have hck : ¬ (c1 = k) := by omega
            go_wp2_with fail
            go_quiet (fail)
            have HB4 : Hid (Below wr.heap.size wr (wr.drewN nq)) := below_drewN (Below.refl _ _) nq
            have HD4 := Lib.hid (HD2.out.keep (HB4.out.mono HD2.out.lt))
            have HW4 : Hid ((wr.drewN nq).ownsRow (N + 2) 50 2 (.slice (some ⟨g, 0, none⟩) i c1) i (spansCells (wantsT lc))) := own_below5 HW2.out HB4.out
            have HZ4 : Hid ((wr.drewN nq).ownsRow (N + 2) 3 1 (.slice B1 i d1) i (gC lc)) := own_below5 HZ2.out HB4.out
            clear HB4 HD2 HW2 HZ2
            generalize wr.drewN nq = w4 at *
            clear a0 a1 r0 r1 r2 r3
            obtain ⟨M, hM⟩ : ∃ M, w4.heap.size = M := ⟨_, rfl⟩
            have HKEEP : Hid (∀ w', Below M w4 w' → Duo W w' N (.slice (some ⟨g, 0, none⟩) i c1) (.slice B1 i d1) ∧ w'.ownsRow (N + 2) 3 1 (.slice B1 i d1) i (gC lc) ∧ N + 2 ≤ w'.heap.size) := fun w' hb => by
              rw [← hM] at hb
              have hd := HD4.out.keep (hb.mono HD4.out.lt)
              exact ⟨hd, own_below5 HZ4.out hb, hd.lt⟩
            have HMQ : Hid (w4.heap.size = M) := hM
            have HNM : Hid (N + 2 ≤ M) := by rw [← hM]; exact HD4.out.lt
            have HMS : Hid (∀ w', Below M w4 w' → M ≤ w'.heap.size) := fun w' hb => by have := hb.size; rw [hM] at this; exact this
            obtain ⟨w5, hw5⟩ : ∃ w5, w4.alloc (.cells #[] 50) = w5 := ⟨_, rfl⟩
            have hb5 : Below M w4 w5 := by rw [← hw5, ← hM]; exact (Below.refl _ w4).alloc (Nat.le_refl _) _
            have HO5 : Hid (w5.ownsRow M 50 2 (.slice (some ⟨M, 0, none⟩) 0 0) 0 []) := by rw [← hw5]; exact own_emptyK w4 50 2 hM
            have HB5 := Lib.hid hb5
            have HS5 : Hid (M ≤ w5.heap.size) := by
              have := hb5.size
              show _ ≤ _
              omega
            obtain ⟨r0, r1, r2, r3⟩ := two_heads (HKEEP.out w5 hb5).1.own
            have HONE := Lib.hid (one_part (spansCells_one (wantsT lc)) (k * 2))
            have HXL : Hid ((spansCells (wantsT lc)).length = i * 2) := by show _ = _; rw [spansCells_length, wantsT_length, HLL.out]
            have hbl4 : Below w4.heap.size w4 w5 := by rw [hM]; exact hb5
            have HC5 := Lib.hid (row_head HW4.out hbl4 k)
            have HL5 : Hid (((spansCells (wantsT lc)).take (k * 2)).length = k * 2) := by show _ = _; rw [List.length_take, HXL.out]; omega
            have HM5 : Hid (0 + k ≤ maxLen) := by show _ ≤ _; unfold maxLen; omega
            have HY5 : Hid ((0 + k) * 16 ≤ 140737488355328) := by show _ ≤ _; omega
            have hkc : (k : Int) ≤ (c1 : Int) := by omega
            clear hb5 hbl4
            go_wp2_with (at_builtin; refine wpList_append_own _ rfl _ _ 22 rfl M 50 j0 (.agg #[.int .i64 0, .int .i64 0]) 2 16 Try.underlying22 hj hy0 hy1 hy2 rfl (by decide) _ _ _ rfl HO5.out ⟨g, 0, none⟩ k c1 ((spansCells (wantsT lc)).take (k * 2)) rfl HL5.out HC5.out HONE.out.1 HM5.out HY5.out HS5.out ?_)
            intro v6 w6 hown6 hgrow6 _
            have hb6 : Below M w5 w6 := below_grown5 hgrow6 HS5.out (own_base5 HO5.out)
            have ho6 : w6.ownsRow M 50 2 v6 k ((spansCells (wantsT lc)).take (k * 2)) := by simpa using hown6
            have HO6 := Lib.hid ho6
            clear ho6
            have HB6 : Hid (Below M w4 w6) := HB5.out.trans hb6
            clear hown6 hgrow6 hb6 hw5 hM r0 r1 r2 r3
            have HS6 : Hid (M ≤ w6.heap.size) := HMS.out w6 HB6.out
            obtain ⟨a0, a1, hbl⟩ := HARG.out _ (HKEEP.out w6 HB6.out).1.bel
            skip
            obtain ⟨B7, hB7⟩ : ∃ B7, w6.heap.size = B7 := ⟨_, rfl⟩
            obtain ⟨w7, hw7⟩ : ∃ w7, w6.alloc (.cells #[.int .i64 x1, .int .i64 x2] 50) = w7 := ⟨_, rfl⟩
            have hb7 : Below w6.heap.size w6 w7 := by rw [← hw7]; exact (Below.refl _ w6).alloc (Nat.le_refl _) _
            have HN7 : Hid (∀ j u, [Value.int .i64 x1, .int .i64 x2][j]? = some u → w7.cell? ((⟨B7, 0, none⟩ : Addr).add j) = some u) := by rw [← hw7]; exact news_two w6 B7 hB7 50 x1 x2
            have HO7 := Lib.hid (own_below5 HO6.out hb7)
            have HB7 : Hid (Below M w4 w7) := HB6.out.trans (hb7.mono HS6.out)
            have HS7 : Hid (M ≤ w7.heap.size) := HMS.out w7 HB7.out
            have HE7 : Hid (∀ u ∈ [Value.int .i64 x1, .int .i64 x2], u.oneCell' = true) := fun u hu => by simp at hu; rcases hu with rfl | rfl <;> rfl
            have HM7 : Hid (k + 1 ≤ maxLen) := by show _ ≤ _; unfold maxLen; omega
            have HY7 : Hid ((k + 1) * 16 ≤ 140737488355328) := by show _ ≤ _; omega
            clear hb7
            obtain ⟨A6, c6, hv6⟩ := own_form HO7.out
            subst hv6
            go_wp2_with (at_builtin; refine wpList_append_own _ rfl _ _ 22 rfl M 50 j0 (.agg #[.int .i64 0, .int .i64 0]) 2 16 Try.underlying22 hj hy0 hy1 hy2 rfl (by decide) _ _ _ rfl HO7.out ⟨B7, 0, none⟩ 1 1 [.int .i64 x1, .int .i64 x2] rfl rfl HN7.out HE7.out HM7.out HY7.out HS7.out ?_)
            intro v8 w8 hown8 hgrow8 _
            have hb8 : Below M w7 w8 := below_grown5 hgrow8 HS7.out (own_base5 HO7.out)
            have HO8 : Hid (w8.ownsRow M 50 2 v8 (k + 1) ((spansCells (wantsT lc)).take (k * 2) ++ [.int .i64 x1, .int .i64 x2])) := hown8
            have HB8 : Hid (Below M w4 w8) := HB7.out.trans hb8
            have HS8 : Hid (M ≤ w8.heap.size) := HMS.out w8 HB8.out
            obtain ⟨A8, c8, hv8⟩ := own_form HO8.out
            subst hv8
            clear hown8 hgrow8 hb8 hw7 hB7 a0 a1 hbl
            obtain ⟨r0, r1, r2, r3⟩ := two_heads (HKEEP.out w8 HB8.out).1.own
            have HC8 : Hid (∀ j u, ((spansCells (wantsT lc)).drop (k * 2))[j]? = some u → w8.cell? ((⟨g, k * 2, none⟩ : Addr).add j) = some u) := row_part HW4.out (by rw [HMQ.out]; exact HB8.out) k
            have HL8 : Hid (((spansCells (wantsT lc)).drop (k * 2)).length = (i - k) * 2) := by show _ = _; rw [List.length_drop, HXL.out]; omega
            have HM8 : Hid (k + 1 + (i - k) ≤ maxLen) := by show _ ≤ _; unfold maxLen; omega
            have HY8 : Hid ((k + 1 + (i - k)) * 16 ≤ 140737488355328) := by show _ ≤ _; omega
            have hki3 : (k : Int) ≤ (i : Int) := by omega
            go_wp2_with (at_builtin; refine wpList_append_own _ rfl _ _ 22 rfl M 50 j0 (.agg #[.int .i64 0, .int .i64 0]) 2 16 Try.underlying22 hj hy0 hy1 hy2 rfl (by decide) _ _ _ rfl HO8.out ⟨g, k * 2, none⟩ (i - k) (c1 - k) ((spansCells (wantsT lc)).drop (k * 2)) rfl HL8.out HC8.out HONE.out.2 HM8.out HY8.out HS8.out ?_)
            intro v9 w9 hown9 hgrow9 _
            have hb9 : Below M w8 w9 := below_grown5 hgrow9 HS8.out (own_base5 HO8.out)
            have ho9 : w9.ownsRow (N + 2) 50 2 v9 (k + 1 + (i - k)) ((spansCells (wantsT lc)).take (k * 2) ++ [.int .i64 x1, .int .i64 x2] ++ (spansCells (wantsT lc)).drop (k * 2)) := by
              
              simpa using own_mono5 hown9 HNM.out
            have HO9 := Lib.hid ho9
            clear ho9
            have HB9 : Hid (Below M w4 w9) := HB8.out.trans hb9
            clear hown9 hgrow9 hb9 r0 r1 r2 r3
            obtain ⟨r0, r1, r2, r3⟩ := two_heads (HKEEP.out w9 HB9.out).1.own
            obtain ⟨L9, hL9⟩ : ∃ L9, (spansCells (wantsT lc)).take (k * 2) ++ [.int .i64 x1, .int .i64 x2] ++ (spansCells (wantsT lc)).drop (k * 2) = L9 := ⟨_, rfl⟩
            have HL9 : Hid (spansCells (wantsT (newT (ps.take (i + 1)))) = L9) := by
              show _ = _
              rw [HNT.out, wants_ins HFU.out]
              exact hL9
            have ecnt : (k + 1 + (i - k)) = i + 1 := by omega
            rw [hL9, ecnt] at HO9
            obtain ⟨A9, c9, hv9⟩ := own_form HO9.out
            clear hL9
            have HD9 := Lib.hid (HKEEP.out w9 HB9.out).1
            have HZ9 := Lib.hid (HKEEP.out w9 HB9.out).2.1
            have HD10 := Lib.hid (HD9.out.set0 v9)
            have HO10 : Hid ((w9.setCell ⟨N + 1, 0, none⟩ v9).ownsRow (N + 2) 50 2 v9 (i + 1) L9) := own_keep HO9.out fun q hq => Below.heap_setCell _ _ _ _ (show q ≠ N + 1 from fun e => own_ne HO9.out HD9.out.own (by decide) (by rw [← e]; exact hq))
            have HZ10 : Hid ((w9.setCell ⟨N + 1, 0, none⟩ v9).ownsRow (N + 2) 3 1 (.slice B1 i d1) i (gC lc)) := own_keep HZ9.out fun q hq => Below.heap_setCell _ _ _ _ (show q ≠ N + 1 from fun e => own_ne HZ9.out HD9.out.own (by decide) (by rw [← e]; exact hq))
            obtain ⟨w10, hw10⟩ : ∃ w10, w9.setCell ⟨N + 1, 0, none⟩ v9 = w10 := ⟨_, rfl⟩
            rw [hw10] at HD10 HO10 HZ10
            obtain ⟨q0, q1, q2, q3⟩ := two_heads HD10.out.own
            obtain ⟨B11, hB11⟩ : ∃ B11, w10.heap.size = B11 := ⟨_, rfl⟩
            obtain ⟨w11, hw11⟩ : ∃ w11, w10.alloc (.cells #[.int .i64 0] 3) = w11 := ⟨_, rfl⟩
            have hb11 : Below w10.heap.size w10 w11 := by rw [← hw11]; exact (Below.refl _ w10).alloc (Nat.le_refl _) _
            have HN11 : Hid (∀ j u, [Value.int .i64 0][j]? = some u → w11.cell? ((⟨B11, 0, none⟩ : Addr).add j) = some u) := by
              rw [← hw11, ← hB11]
              exact World.news_of_block (heap_alloc_new w10 _)
            have HZ11 := Lib.hid (own_below5 HZ10.out hb11)
            have HO11 := Lib.hid (own_below5 HO10.out hb11)
            have HD11 := Lib.hid (HD10.out.keep (hb11.mono HD10.out.lt))
            have HS11 : Hid (N + 2 ≤ w11.heap.size) := HD11.out.lt
            have HE11 : Hid (∀ u ∈ [Value.int .i64 0], u.oneCell' = true) := fun u hu => by simp at hu; rw [hu]; rfl
            have HM11 : Hid (i + 1 ≤ maxLen) := by show _ ≤ _; unfold maxLen; omega
            have HY11 : Hid ((i + 1) * 8 ≤ 140737488355328) := by show _ ≤ _; omega
            clear hb11
            subst hv9
            go_wp2_with (at_builtin; refine wpList_append_own _ rfl _ _ 30 rfl (N + 2) 3 i0 (.int .i64 0) 1 8 Try.underlying30 hi hz0 hz1 hz2 rfl (by decide) _ _ _ rfl HZ11.out ⟨B11, 0, none⟩ 1 1 [.int .i64 0] rfl rfl HN11.out HE11.out HM11.out HY11.out HS11.out ?_)
            intro v12 w12 hown12 hgrow12 _
            have hb12 : Below (N + 2) w11 w12 := below_grown5 hgrow12 HS11.out (own_base5 HZ11.out)
            have HO12 := Lib.hid (own_other HO11.out HZ11.out hgrow12 (by decide))
            have HZ12 : Hid (w12.ownsRow (N + 2) 3 1 v12 (i + 1) (gC (newT (ps.take (i + 1))))) := by
              show World.ownsRow _ _ _ _ _ _ _
              rw [HGZ.out]
              exact hown12
            have HD12 := Lib.hid (HD11.out.keep hb12)
            obtain ⟨B12, d12, hv12⟩ := own_form HZ12.out
            clear hown12 hgrow12 hb12 hw11 hB11 hw10 q0 q1 q2 q3 r0 r1 r2 r3
            obtain ⟨q0, q1, q2, q3⟩ := two_heads HD12.out.own
            have HD13 := Lib.hid (HD12.out.set1 v12)
            have HR13 : Hid (Rows2 (w12.setCell ⟨N + 1, 1, none⟩ v12) (N + 2) (.slice A9 (i + 1) c9) v12 (i + 1) (newT (ps.take (i + 1)))) := by
              refine ⟨?_, own_keep HZ12.out fun q hq => Below.heap_setCell _ _ _ _ (show q ≠ N + 1 from fun e => own_ne HZ12.out HD12.out.own (by decide) (by rw [← e]; exact hq))⟩
              rw [HL9.out]
              exact own_keep HO12.out fun q hq => Below.heap_setCell _ _ _ _ (show q ≠ N + 1 from fun e => own_ne HO12.out HD12.out.own (by decide) (by rw [← e]; exact hq))
            obtain ⟨w13, hw13⟩ : ∃ w13, w12.setCell ⟨N + 1, 1, none⟩ v12 = w13 := ⟨_, rfl⟩
            rw [hw13] at HD13 HR13
            subst hv12
            go_wp2_with fail
            go_roundg (n - (i + 1))
            case measure => have := HG.out; omega
            case rel => exact ⟨i + 1, _, _, by omega, rfl, by go_num, HD13.out, HR13.out, fun e => absurd e (Nat.succ_ne_zero _)⟩
        · have hltz2 : ¬ (k : Int) < (i : Int) := by omega
          have hke : k = i := by omega
          have HFU : Hid (FirstU ⟨x1, x2, 0⟩ lc k) := ⟨by rw [HLL.out]; omega, HALL.out, fun m' hm' => by
            rw [List.getElem?_eq_none (by rw [HLL.out]; omega)] at hm'
            cases hm'⟩
          rcases HW2.out.2 with ⟨hv0, h0⟩ | ⟨g, cap, cur, hv0, _, hh0, hcap, hcapm, _, _⟩
          · injection hv0 with e1 e2 e3
            subst e1 e3
            have hk00 : k = 0 := by omega
            subst hk00
            have hi00 : i = 0 := h0
            subst hi00
            clear e2 h0 hke
            have hltn : ¬ (0 : Int) < 0 := by decide
            go_wp2_with fail
            go_quiet (fail)
            have HB4 : Hid (Below wr.heap.size wr (wr.drewN nq)) := below_drewN (Below.refl _ _) nq
            have HD4 := Lib.hid (HD2.out.keep (HB4.out.mono HD2.out.lt))
            have HW4 : Hid ((wr.drewN nq).ownsRow (N + 2) 50 2 (.slice none 0 0) 0 (spansCells (wantsT lc))) := own_below5 HW2.out HB4.out
            have HZ4 : Hid ((wr.drewN nq).ownsRow (N + 2) 3 1 (.slice B1 0 d1) 0 (gC lc)) := own_below5 HZ2.out HB4.out
            clear HB4 HD2 HW2 HZ2
            generalize wr.drewN nq = w4 at *
            clear a0 a1 r0 r1 r2 r3
            obtain ⟨M, hM⟩ : ∃ M, w4.heap.size = M := ⟨_, rfl⟩
            have HKEEP : Hid (∀ w', Below M w4 w' → Duo W w' N (.slice none 0 0) (.slice B1 0 d1) ∧ w'.ownsRow (N + 2) 3 1 (.slice B1 0 d1) 0 (gC lc) ∧ N + 2 ≤ w'.heap.size) := fun w' hb => by
              rw [← hM] at hb
              have hd := HD4.out.keep (hb.mono HD4.out.lt)
              exact ⟨hd, own_below5 HZ4.out hb, hd.lt⟩
            have HMQ : Hid (w4.heap.size = M) := hM
            have HNM : Hid (N + 2 ≤ M) := by rw [← hM]; exact HD4.out.lt
            have HMS : Hid (∀ w', Below M w4 w' → M ≤ w'.heap.size) := fun w' hb => by have := hb.size; rw [hM] at this; exact this
            obtain ⟨w5, hw5⟩ : ∃ w5, w4.alloc (.cells #[] 50) = w5 := ⟨_, rfl⟩
            have hb5 : Below M w4 w5 := by rw [← hw5, ← hM]; exact (Below.refl _ w4).alloc (Nat.le_refl _) _
            have HO5 : Hid (w5.ownsRow M 50 2 (.slice (some ⟨M, 0, none⟩) 0 0) 0 []) := by rw [← hw5]; exact own_emptyK w4 50 2 hM
            have HB5 := Lib.hid hb5
            have HS5 : Hid (M ≤ w5.heap.size) := by
              have := hb5.size
              show _ ≤ _
              omega
            obtain ⟨r0, r1, r2, r3⟩ := two_heads (HKEEP.out w5 hb5).1.own
            have HONE := Lib.hid (one_part (spansCells_one (wantsT lc)) (0 * 2))
            have HXL : Hid ((spansCells (wantsT lc)).length = 0 * 2) := by show _ = _; rw [spansCells_length, wantsT_length, HLL.out]
            clear hb5
            have ho6 : w5.ownsRow M 50 2 (.slice (some ⟨M, 0, none⟩) 0 0) 0 ((spansCells (wantsT lc)).take (0 * 2)) := by simpa using HO5.out
            have HO6 := Lib.hid ho6
            clear ho6
            have HB6 := Lib.hid HB5.out
            clear HO5
            obtain ⟨w6, hw6⟩ : ∃ w6, w5 = w6 := ⟨_, rfl⟩
            subst hw6
            have HS6 : Hid (M ≤ w5.heap.size) := HMS.out w5 HB6.out
            obtain ⟨a0, a1, hbl⟩ := HARG.out _ (HKEEP.out w5 HB6.out).1.bel
            simp only [Nat.zero_mul, Nat.add_zero] at a0 a1
            obtain ⟨B7, hB7⟩ : ∃ B7, w5.heap.size = B7 := ⟨_, rfl⟩
            obtain ⟨w7, hw7⟩ : ∃ w7, w5.alloc (.cells #[.int .i64 x1, .int .i64 x2] 50) = w7 := ⟨_, rfl⟩
            have hb7 : Below w5.heap.size w5 w7 := by rw [← hw7]; exact (Below.refl _ w5).alloc (Nat.le_refl _) _
            have HN7 : Hid (∀ j u, [Value.int .i64 x1, .int .i64 x2][j]? = some u → w7.cell? ((⟨B7, 0, none⟩ : Addr).add j) = some u) := by rw [← hw7]; exact news_two w5 B7 hB7 50 x1 x2
            have HO7 := Lib.hid (own_below5 HO6.out hb7)
            have HB7 : Hid (Below M w4 w7) := HB6.out.trans (hb7.mono HS6.out)
            have HS7 : Hid (M ≤ w7.heap.size) := HMS.out w7 HB7.out
            have HE7 : Hid (∀ u ∈ [Value.int .i64 x1, .int .i64 x2], u.oneCell' = true) := fun u hu => by simp at hu; rcases hu with rfl | rfl <;> rfl
            have HM7 : Hid (0 + 1 ≤ maxLen) := by show _ ≤ _; unfold maxLen; omega
            have HY7 : Hid ((0 + 1) * 16 ≤ 140737488355328) := by show _ ≤ _; omega
            clear hb7
            go_wp2_with (at_builtin; refine wpList_append_own _ rfl _ _ 22 rfl M 50 j0 (.agg #[.int .i64 0, .int .i64 0]) 2 16 Try.underlying22 hj hy0 hy1 hy2 rfl (by decide) _ _ _ rfl HO7.out ⟨B7, 0, none⟩ 1 1 [.int .i64 x1, .int .i64 x2] rfl rfl HN7.out HE7.out HM7.out HY7.out HS7.out ?_)
            intro v8 w8 hown8 hgrow8 _
            have hb8 : Below M w7 w8 := below_grown5 hgrow8 HS7.out (own_base5 HO7.out)
            have HO8 : Hid (w8.ownsRow M 50 2 v8 (0 + 1) ((spansCells (wantsT lc)).take (0 * 2) ++ [.int .i64 x1, .int .i64 x2])) := hown8
            have HB8 : Hid (Below M w4 w8) := HB7.out.trans hb8
            have HS8 : Hid (M ≤ w8.heap.size) := HMS.out w8 HB8.out
            obtain ⟨A8, c8, hv8⟩ := own_form HO8.out
            subst hv8
            clear hown8 hgrow8 hb8 hw7 hB7 a0 a1 hbl
            obtain ⟨r0, r1, r2, r3⟩ := two_heads (HKEEP.out w8 HB8.out).1.own
            have ho9 : w8.ownsRow (N + 2) 50 2 (.slice A8 (0 + 1) c8) (0 + 1) ((spansCells (wantsT lc)).take (0 * 2) ++ [.int .i64 x1, .int .i64 x2] ++ (spansCells (wantsT lc)).drop (0 * 2)) := by
              have h9 := HXL.out
              have e : spansCells (wantsT lc) = [] := List.eq_nil_of_length_eq_zero (by omega)
              rw [e]
              have := HO8.out
              rw [e] at this
              simpa using own_mono5 this HNM.out
            have HO9 := Lib.hid ho9
            clear ho9
            obtain ⟨L9, hL9⟩ : ∃ L9, (spansCells (wantsT lc)).take (0 * 2) ++ [.int .i64 x1, .int .i64 x2] ++ (spansCells (wantsT lc)).drop (0 * 2) = L9 := ⟨_, rfl⟩
            have HL9 : Hid (spansCells (wantsT (newT (ps.take (0 + 1)))) = L9) := by
              show _ = _
              rw [HNT.out, wants_ins HFU.out]
              exact hL9
            have ecnt : (0 + 1) = 0 + 1 := by omega
            rw [hL9, ecnt] at HO9

            clear hL9
            have HD9 := Lib.hid (HKEEP.out w8 HB8.out).1
            have HZ9 := Lib.hid (HKEEP.out w8 HB8.out).2.1
            have HD10 := Lib.hid (HD9.out.set0 (.slice A8 (0 + 1) c8))
            have HO10 : Hid ((w8.setCell ⟨N + 1, 0, none⟩ (.slice A8 (0 + 1) c8)).ownsRow (N + 2) 50 2 (.slice A8 (0 + 1) c8) (0 + 1) L9) := own_keep HO9.out fun q hq => Below.heap_setCell _ _ _ _ (show q ≠ N + 1 from fun e => own_ne HO9.out HD9.out.own (by decide) (by rw [← e]; exact hq))
            have HZ10 : Hid ((w8.setCell ⟨N + 1, 0, none⟩ (.slice A8 (0 + 1) c8)).ownsRow (N + 2) 3 1 (.slice B1 0 d1) 0 (gC lc)) := own_keep HZ9.out fun q hq => Below.heap_setCell _ _ _ _ (show q ≠ N + 1 from fun e => own_ne HZ9.out HD9.out.own (by decide) (by rw [← e]; exact hq))
            obtain ⟨w10, hw10⟩ : ∃ w10, w8.setCell ⟨N + 1, 0, none⟩ (.slice A8 (0 + 1) c8) = w10 := ⟨_, rfl⟩
            rw [hw10] at HD10 HO10 HZ10
            obtain ⟨q0, q1, q2, q3⟩ := two_heads HD10.out.own
            obtain ⟨B11, hB11⟩ : ∃ B11, w10.heap.size = B11 := ⟨_, rfl⟩
            obtain ⟨w11, hw11⟩ : ∃ w11, w10.alloc (.cells #[.int .i64 0] 3) = w11 := ⟨_, rfl⟩
            have hb11 : Below w10.heap.size w10 w11 := by rw [← hw11]; exact (Below.refl _ w10).alloc (Nat.le_refl _) _
            have HN11 : Hid (∀ j u, [Value.int .i64 0][j]? = some u → w11.cell? ((⟨B11, 0, none⟩ : Addr).add j) = some u) := by
              rw [← hw11, ← hB11]
              exact World.news_of_block (heap_alloc_new w10 _)
            have HZ11 := Lib.hid (own_below5 HZ10.out hb11)
            have HO11 := Lib.hid (own_below5 HO10.out hb11)
            have HD11 := Lib.hid (HD10.out.keep (hb11.mono HD10.out.lt))
            have HS11 : Hid (N + 2 ≤ w11.heap.size) := HD11.out.lt
            have HE11 : Hid (∀ u ∈ [Value.int .i64 0], u.oneCell' = true) := fun u hu => by simp at hu; rw [hu]; rfl
            have HM11 : Hid (0 + 1 ≤ maxLen) := by show _ ≤ _; unfold maxLen; omega
            have HY11 : Hid ((0 + 1) * 8 ≤ 140737488355328) := by show _ ≤ _; omega
            clear hb11
            go_wp2_with (first | (at_builtin; refine wpList_append_none5 rfl _ _ 22 rfl M 50 j0 2 Try.underlying22 hj _ _ _ rfl HO8.out 0 rfl ?_) | (at_builtin; refine wpList_append_own _ rfl _ _ 30 rfl (N + 2) 3 i0 (.int .i64 0) 1 8 Try.underlying30 hi hz0 hz1 hz2 rfl (by decide) _ _ _ rfl HZ11.out ⟨B11, 0, none⟩ 1 1 [.int .i64 0] rfl rfl HN11.out HE11.out HM11.out HY11.out HS11.out ?_))
            intro v12 w12 hown12 hgrow12 _
            have hb12 : Below (N + 2) w11 w12 := below_grown5 hgrow12 HS11.out (own_base5 HZ11.out)
            have HO12 := Lib.hid (own_other HO11.out HZ11.out hgrow12 (by decide))
            have HZ12 : Hid (w12.ownsRow (N + 2) 3 1 v12 (0 + 1) (gC (newT (ps.take (0 + 1))))) := by
              show World.ownsRow _ _ _ _ _ _ _
              rw [HGZ.out]
              exact hown12
            have HD12 := Lib.hid (HD11.out.keep hb12)
            obtain ⟨B12, d12, hv12⟩ := own_form HZ12.out
            clear hown12 hgrow12 hb12 hw11 hB11 hw10 q0 q1 q2 q3 r0 r1 r2 r3
            obtain ⟨q0, q1, q2, q3⟩ := two_heads HD12.out.own
            have HD13 := Lib.hid (HD12.out.set1 v12)
            have HR13 : Hid (Rows2 (w12.setCell ⟨N + 1, 1, none⟩ v12) (N + 2) (.slice A8 (0 + 1) c8) v12 (0 + 1) (newT (ps.take (0 + 1)))) := by
              refine ⟨?_, own_keep HZ12.out fun q hq => Below.heap_setCell _ _ _ _ (show q ≠ N + 1 from fun e => own_ne HZ12.out HD12.out.own (by decide) (by rw [← e]; exact hq))⟩
              rw [HL9.out]
              exact own_keep HO12.out fun q hq => Below.heap_setCell _ _ _ _ (show q ≠ N + 1 from fun e => own_ne HO12.out HD12.out.own (by decide) (by rw [← e]; exact hq))
            obtain ⟨w13, hw13⟩ : ∃ w13, w12.setCell ⟨N + 1, 1, none⟩ v12 = w13 := ⟨_, rfl⟩
            rw [hw13] at HD13 HR13
            subst hv12
            go_wp2_with fail
            go_roundg (n - (0 + 1))
            case measure => have := HG.out; omega
            case rel => exact ⟨0 + 1, _, _, by omega, rfl, by go_num, HD13.out, HR13.out, fun e => absurd e (Nat.succ_ne_zero _)⟩
          · injection hv0 with e1 e2 e3
            clear e2
            subst e1 e3
            have hgl : g < wr.heap.size := heap_lt hh0
            clear hh0
            have hi1 : 0 < i := by
              rcases Nat.eq_zero_or_pos i with e | e
              · have := HYN.out e
                cases this
              · exact e
            have hc10 : ¬ (c1 = 0) := by omega
            obtain rfl : k = i := hke
            have hltk : ((k : Int) < (k : Int)) = False := by simp
            clear hlt2 hltz2
            by_cases hck : c1 = k
            · obtain rfl : k = c1 := hck.symm
              go_wp2_with fail
              go_quiet (fail)
              have HB4 : Hid (Below wr.heap.size wr (wr.drewN nq)) := below_drewN (Below.refl _ _) nq
              have HD4 := Lib.hid (HD2.out.keep (HB4.out.mono HD2.out.lt))
              have HW4 : Hid ((wr.drewN nq).ownsRow (N + 2) 50 2 (.slice (some ⟨g, 0, none⟩) k k) k (spansCells (wantsT lc))) := own_below5 HW2.out HB4.out
              have HZ4 : Hid ((wr.drewN nq).ownsRow (N + 2) 3 1 (.slice B1 k d1) k (gC lc)) := own_below5 HZ2.out HB4.out
              clear HB4 HD2 HW2 HZ2
              generalize wr.drewN nq = w4 at *
              clear a0 a1 r0 r1 r2 r3
              obtain ⟨M, hM⟩ : ∃ M, w4.heap.size = M := ⟨_, rfl⟩
              have HKEEP : Hid (∀ w', Below M w4 w' → Duo W w' N (.slice (some ⟨g, 0, none⟩) k k) (.slice B1 k d1) ∧ w'.ownsRow (N + 2) 3 1 (.slice B1 k d1) k (gC lc) ∧ N + 2 ≤ w'.heap.size) := fun w' hb => by
                rw [← hM] at hb
                have hd := HD4.out.keep (hb.mono HD4.out.lt)
                exact ⟨hd, own_below5 HZ4.out hb, hd.lt⟩
              have HMQ : Hid (w4.heap.size = M) := hM
              have HNM : Hid (N + 2 ≤ M) := by rw [← hM]; exact HD4.out.lt
              have HMS : Hid (∀ w', Below M w4 w' → M ≤ w'.heap.size) := fun w' hb => by have := hb.size; rw [hM] at this; exact this
              obtain ⟨w5, hw5⟩ : ∃ w5, w4.alloc (.cells #[] 50) = w5 := ⟨_, rfl⟩
              have hb5 : Below M w4 w5 := by rw [← hw5, ← hM]; exact (Below.refl _ w4).alloc (Nat.le_refl _) _
              have HO5 : Hid (w5.ownsRow M 50 2 (.slice (some ⟨M, 0, none⟩) 0 0) 0 []) := by rw [← hw5]; exact own_emptyK w4 50 2 hM
              have HB5 := Lib.hid hb5
              have HS5 : Hid (M ≤ w5.heap.size) := by
                have := hb5.size
                show _ ≤ _
                omega
              obtain ⟨r0, r1, r2, r3⟩ := two_heads (HKEEP.out w5 hb5).1.own
              have HONE := Lib.hid (one_part (spansCells_one (wantsT lc)) (k * 2))
              have HXL : Hid ((spansCells (wantsT lc)).length = k * 2) := by show _ = _; rw [spansCells_length, wantsT_length, HLL.out]
              have hbl4 : Below w4.heap.size w4 w5 := by rw [hM]; exact hb5
              have HC5 := Lib.hid (row_head HW4.out hbl4 k)
              have HL5 : Hid (((spansCells (wantsT lc)).take (k * 2)).length = k * 2) := by show _ = _; rw [List.length_take, HXL.out]; omega
              have HM5 : Hid (0 + k ≤ maxLen) := by show _ ≤ _; unfold maxLen; omega
              have HY5 : Hid ((0 + k) * 16 ≤ 140737488355328) := by show _ ≤ _; omega
              have hkc : (k : Int) ≤ (k : Int) := by omega
              clear hb5 hbl4
              go_wp2_with (at_builtin; refine wpList_append_own _ rfl _ _ 22 rfl M 50 j0 (.agg #[.int .i64 0, .int .i64 0]) 2 16 Try.underlying22 hj hy0 hy1 hy2 rfl (by decide) _ _ _ rfl HO5.out ⟨g, 0, none⟩ k k ((spansCells (wantsT lc)).take (k * 2)) rfl HL5.out HC5.out HONE.out.1 HM5.out HY5.out HS5.out ?_)
              intro v6 w6 hown6 hgrow6 _
              have hb6 : Below M w5 w6 := below_grown5 hgrow6 HS5.out (own_base5 HO5.out)
              have ho6 : w6.ownsRow M 50 2 v6 k ((spansCells (wantsT lc)).take (k * 2)) := by simpa using hown6
              have HO6 := Lib.hid ho6
              clear ho6
              have HB6 : Hid (Below M w4 w6) := HB5.out.trans hb6
              clear hown6 hgrow6 hb6 hw5 hM r0 r1 r2 r3
              have HS6 : Hid (M ≤ w6.heap.size) := HMS.out w6 HB6.out
              obtain ⟨a0, a1, hbl⟩ := HARG.out _ (HKEEP.out w6 HB6.out).1.bel
              skip
              obtain ⟨B7, hB7⟩ : ∃ B7, w6.heap.size = B7 := ⟨_, rfl⟩
              obtain ⟨w7, hw7⟩ : ∃ w7, w6.alloc (.cells #[.int .i64 x1, .int .i64 x2] 50) = w7 := ⟨_, rfl⟩
              have hb7 : Below w6.heap.size w6 w7 := by rw [← hw7]; exact (Below.refl _ w6).alloc (Nat.le_refl _) _
              have HN7 : Hid (∀ j u, [Value.int .i64 x1, .int .i64 x2][j]? = some u → w7.cell? ((⟨B7, 0, none⟩ : Addr).add j) = some u) := by rw [← hw7]; exact news_two w6 B7 hB7 50 x1 x2
              have HO7 := Lib.hid (own_below5 HO6.out hb7)
              have HB7 : Hid (Below M w4 w7) := HB6.out.trans (hb7.mono HS6.out)
              have HS7 : Hid (M ≤ w7.heap.size) := HMS.out w7 HB7.out
              have HE7 : Hid (∀ u ∈ [Value.int .i64 x1, .int .i64 x2], u.oneCell' = true) := fun u hu => by simp at hu; rcases hu with rfl | rfl <;> rfl
              have HM7 : Hid (k + 1 ≤ maxLen) := by show _ ≤ _; unfold maxLen; omega
              have HY7 : Hid ((k + 1) * 16 ≤ 140737488355328) := by show _ ≤ _; omega
              clear hb7
              obtain ⟨A6, c6, hv6⟩ := own_form HO7.out
              subst hv6
              go_wp2_with (at_builtin; refine wpList_append_own _ rfl _ _ 22 rfl M 50 j0 (.agg #[.int .i64 0, .int .i64 0]) 2 16 Try.underlying22 hj hy0 hy1 hy2 rfl (by decide) _ _ _ rfl HO7.out ⟨B7, 0, none⟩ 1 1 [.int .i64 x1, .int .i64 x2] rfl rfl HN7.out HE7.out HM7.out HY7.out HS7.out ?_)
              intro v8 w8 hown8 hgrow8 _
              have hb8 : Below M w7 w8 := below_grown5 hgrow8 HS7.out (own_base5 HO7.out)
              have HO8 : Hid (w8.ownsRow M 50 2 v8 (k + 1) ((spansCells (wantsT lc)).take (k * 2) ++ [.int .i64 x1, .int .i64 x2])) := hown8
              have HB8 : Hid (Below M w4 w8) := HB7.out.trans hb8
              have HS8 : Hid (M ≤ w8.heap.size) := HMS.out w8 HB8.out
              obtain ⟨A8, c8, hv8⟩ := own_form HO8.out
              subst hv8
              clear hown8 hgrow8 hb8 hw7 hB7 a0 a1 hbl
              obtain ⟨r0, r1, r2, r3⟩ := two_heads (HKEEP.out w8 HB8.out).1.own
              have HC8 : Hid (∀ j u, ([] : List Value)[j]? = some u → w8.cell? ((⟨g, 0, none⟩ : Addr).add j) = some u) := fun j u hj => by simp at hj
              have HE8 : Hid (∀ u ∈ ([] : List Value), u.oneCell' = true) := fun u hu => by cases hu
              have HL8 : Hid (([] : List Value).length = 0 * 2) := rfl
              have HDR : Hid ((spansCells (wantsT lc)).drop (k * 2) = []) := List.drop_of_length_le (by rw [HXL.out]; exact Nat.le_refl _)
              have HM8 : Hid (k + 1 + 0 ≤ maxLen) := by show _ ≤ _; unfold maxLen; omega
              have HY8 : Hid ((k + 1 + 0) * 16 ≤ 140737488355328) := by show _ ≤ _; omega
              go_wp2_with (at_builtin; refine wpList_append_own _ rfl _ _ 22 rfl M 50 j0 (.agg #[.int .i64 0, .int .i64 0]) 2 16 Try.underlying22 hj hy0 hy1 hy2 rfl (by decide) _ _ _ rfl HO8.out ⟨g, 0, none⟩ 0 0 [] rfl HL8.out HC8.out HE8.out HM8.out HY8.out HS8.out ?_)
              intro v9 w9 hown9 hgrow9 _
              have hb9 : Below M w8 w9 := below_grown5 hgrow9 HS8.out (own_base5 HO8.out)
              have ho9 : w9.ownsRow (N + 2) 50 2 v9 (k + 1) ((spansCells (wantsT lc)).take (k * 2) ++ [.int .i64 x1, .int .i64 x2] ++ (spansCells (wantsT lc)).drop (k * 2)) := by
                rw [HDR.out]
                simpa using own_mono5 hown9 HNM.out
              have HO9 := Lib.hid ho9
              clear ho9
              have HB9 : Hid (Below M w4 w9) := HB8.out.trans hb9
              clear hown9 hgrow9 hb9 r0 r1 r2 r3
              obtain ⟨r0, r1, r2, r3⟩ := two_heads (HKEEP.out w9 HB9.out).1.own
              obtain ⟨L9, hL9⟩ : ∃ L9, (spansCells (wantsT lc)).take (k * 2) ++ [.int .i64 x1, .int .i64 x2] ++ (spansCells (wantsT lc)).drop (k * 2) = L9 := ⟨_, rfl⟩
              have HL9 : Hid (spansCells (wantsT (newT (ps.take (k + 1)))) = L9) := by
                show _ = _
                rw [HNT.out, wants_ins HFU.out]
                exact hL9
              have ecnt : (k + 1) = k + 1 := by omega
              rw [hL9, ecnt] at HO9
              obtain ⟨A9, c9, hv9⟩ := own_form HO9.out
              clear hL9
              have HD9 := Lib.hid (HKEEP.out w9 HB9.out).1
              have HZ9 := Lib.hid (HKEEP.out w9 HB9.out).2.1
              have HD10 := Lib.hid (HD9.out.set0 v9)
              have HO10 : Hid ((w9.setCell ⟨N + 1, 0, none⟩ v9).ownsRow (N + 2) 50 2 v9 (k + 1) L9) := own_keep HO9.out fun q hq => Below.heap_setCell _ _ _ _ (show q ≠ N + 1 from fun e => own_ne HO9.out HD9.out.own (by decide) (by rw [← e]; exact hq))
              have HZ10 : Hid ((w9.setCell ⟨N + 1, 0, none⟩ v9).ownsRow (N + 2) 3 1 (.slice B1 k d1) k (gC lc)) := own_keep HZ9.out fun q hq => Below.heap_setCell _ _ _ _ (show q ≠ N + 1 from fun e => own_ne HZ9.out HD9.out.own (by decide) (by rw [← e]; exact hq))
              obtain ⟨w10, hw10⟩ : ∃ w10, w9.setCell ⟨N + 1, 0, none⟩ v9 = w10 := ⟨_, rfl⟩
              rw [hw10] at HD10 HO10 HZ10
              obtain ⟨q0, q1, q2, q3⟩ := two_heads HD10.out.own
              obtain ⟨B11, hB11⟩ : ∃ B11, w10.heap.size = B11 := ⟨_, rfl⟩
              obtain ⟨w11, hw11⟩ : ∃ w11, w10.alloc (.cells #[.int .i64 0] 3) = w11 := ⟨_, rfl⟩
              have hb11 : Below w10.heap.size w10 w11 := by rw [← hw11]; exact (Below.refl _ w10).alloc (Nat.le_refl _) _
              have HN11 : Hid (∀ j u, [Value.int .i64 0][j]? = some u → w11.cell? ((⟨B11, 0, none⟩ : Addr).add j) = some u) := by
                rw [← hw11, ← hB11]
                exact World.news_of_block (heap_alloc_new w10 _)
              have HZ11 := Lib.hid (own_below5 HZ10.out hb11)
              have HO11 := Lib.hid (own_below5 HO10.out hb11)
              have HD11 := Lib.hid (HD10.out.keep (hb11.mono HD10.out.lt))
              have HS11 : Hid (N + 2 ≤ w11.heap.size) := HD11.out.lt
              have HE11 : Hid (∀ u ∈ [Value.int .i64 0], u.oneCell' = true) := fun u hu => by simp at hu; rw [hu]; rfl
              have HM11 : Hid (k + 1 ≤ maxLen) := by show _ ≤ _; unfold maxLen; omega
              have HY11 : Hid ((k + 1) * 8 ≤ 140737488355328) := by show _ ≤ _; omega
              clear hb11
              subst hv9
              go_wp2_with (at_builtin; refine wpList_append_own _ rfl _ _ 30 rfl (N + 2) 3 i0 (.int .i64 0) 1 8 Try.underlying30 hi hz0 hz1 hz2 rfl (by decide) _ _ _ rfl HZ11.out ⟨B11, 0, none⟩ 1 1 [.int .i64 0] rfl rfl HN11.out HE11.out HM11.out HY11.out HS11.out ?_)
              intro v12 w12 hown12 hgrow12 _
              have hb12 : Below (N + 2) w11 w12 := below_grown5 hgrow12 HS11.out (own_base5 HZ11.out)
              have HO12 := Lib.hid (own_other HO11.out HZ11.out hgrow12 (by decide))
              have HZ12 : Hid (w12.ownsRow (N + 2) 3 1 v12 (k + 1) (gC (newT (ps.take (k + 1))))) := by
                show World.ownsRow _ _ _ _ _ _ _
                rw [HGZ.out]
                exact hown12
              have HD12 := Lib.hid (HD11.out.keep hb12)
              obtain ⟨B12, d12, hv12⟩ := own_form HZ12.out
              clear hown12 hgrow12 hb12 hw11 hB11 hw10 q0 q1 q2 q3 r0 r1 r2 r3
              obtain ⟨q0, q1, q2, q3⟩ := two_heads HD12.out.own
              have HD13 := Lib.hid (HD12.out.set1 v12)
              have HR13 : Hid (Rows2 (w12.setCell ⟨N + 1, 1, none⟩ v12) (N + 2) (.slice A9 (k + 1) c9) v12 (k + 1) (newT (ps.take (k + 1)))) := by
                refine ⟨?_, own_keep HZ12.out fun q hq => Below.heap_setCell _ _ _ _ (show q ≠ N + 1 from fun e => own_ne HZ12.out HD12.out.own (by decide) (by rw [← e]; exact hq))⟩
                rw [HL9.out]
                exact own_keep HO12.out fun q hq => Below.heap_setCell _ _ _ _ (show q ≠ N + 1 from fun e => own_ne HO12.out HD12.out.own (by decide) (by rw [← e]; exact hq))
              obtain ⟨w13, hw13⟩ : ∃ w13, w12.setCell ⟨N + 1, 1, none⟩ v12 = w13 := ⟨_, rfl⟩
              rw [hw13] at HD13 HR13
              subst hv12
              go_wp2_with fail
              go_roundg (n - (k + 1))
              case measure => have := HG.out; omega
              case rel => exact ⟨k + 1, _, _, by omega, rfl, by go_num, HD13.out, HR13.out, fun e => absurd e (Nat.succ_ne_zero _)⟩
            · go_wp2_with fail
              go_quiet (fail)
              have HB4 : Hid (Below wr.heap.size wr (wr.drewN nq)) := below_drewN (Below.refl _ _) nq
              have HD4 := Lib.hid (HD2.out.keep (HB4.out.mono HD2.out.lt))
              have HW4 : Hid ((wr.drewN nq).ownsRow (N + 2) 50 2 (.slice (some ⟨g, 0, none⟩) k c1) k (spansCells (wantsT lc))) := own_below5 HW2.out HB4.out
              have HZ4 : Hid ((wr.drewN nq).ownsRow (N + 2) 3 1 (.slice B1 k d1) k (gC lc)) := own_below5 HZ2.out HB4.out
              clear HB4 HD2 HW2 HZ2
              generalize wr.drewN nq = w4 at *
              clear a0 a1 r0 r1 r2 r3
              obtain ⟨M, hM⟩ : ∃ M, w4.heap.size = M := ⟨_, rfl⟩
              have HKEEP : Hid (∀ w', Below M w4 w' → Duo W w' N (.slice (some ⟨g, 0, none⟩) k c1) (.slice B1 k d1) ∧ w'.ownsRow (N + 2) 3 1 (.slice B1 k d1) k (gC lc) ∧ N + 2 ≤ w'.heap.size) := fun w' hb => by
                rw [← hM] at hb
                have hd := HD4.out.keep (hb.mono HD4.out.lt)
                exact ⟨hd, own_below5 HZ4.out hb, hd.lt⟩
              have HMQ : Hid (w4.heap.size = M) := hM
              have HNM : Hid (N + 2 ≤ M) := by rw [← hM]; exact HD4.out.lt
              have HMS : Hid (∀ w', Below M w4 w' → M ≤ w'.heap.size) := fun w' hb => by have := hb.size; rw [hM] at this; exact this
              obtain ⟨w5, hw5⟩ : ∃ w5, w4.alloc (.cells #[] 50) = w5 := ⟨_, rfl⟩
              have hb5 : Below M w4 w5 := by rw [← hw5, ← hM]; exact (Below.refl _ w4).alloc (Nat.le_refl _) _
              have HO5 : Hid (w5.ownsRow M 50 2 (.slice (some ⟨M, 0, none⟩) 0 0) 0 []) := by rw [← hw5]; exact own_emptyK w4 50 2 hM
              have HB5 := Lib.hid hb5
              have HS5 : Hid (M ≤ w5.heap.size) := by
                have := hb5.size
                show _ ≤ _
                omega
              obtain ⟨r0, r1, r2, r3⟩ := two_heads (HKEEP.out w5 hb5).1.own
              have HONE := Lib.hid (one_part (spansCells_one (wantsT lc)) (k * 2))
              have HXL : Hid ((spansCells (wantsT lc)).length = k * 2) := by show _ = _; rw [spansCells_length, wantsT_length, HLL.out]
              have hbl4 : Below w4.heap.size w4 w5 := by rw [hM]; exact hb5
              have HC5 := Lib.hid (row_head HW4.out hbl4 k)
              have HL5 : Hid (((spansCells (wantsT lc)).take (k * 2)).length = k * 2) := by show _ = _; rw [List.length_take, HXL.out]; omega
              have HM5 : Hid (0 + k ≤ maxLen) := by show _ ≤ _; unfold maxLen; omega
              have HY5 : Hid ((0 + k) * 16 ≤ 140737488355328) := by show _ ≤ _; omega
              have hkc : (k : Int) ≤ (c1 : Int) := by omega
              clear hb5 hbl4
              go_wp2_with (at_builtin; refine wpList_append_own _ rfl _ _ 22 rfl M 50 j0 (.agg #[.int .i64 0, .int .i64 0]) 2 16 Try.underlying22 hj hy0 hy1 hy2 rfl (by decide) _ _ _ rfl HO5.out ⟨g, 0, none⟩ k c1 ((spansCells (wantsT lc)).take (k * 2)) rfl HL5.out HC5.out HONE.out.1 HM5.out HY5.out HS5.out ?_)
              intro v6 w6 hown6 hgrow6 _
              have hb6 : Below M w5 w6 := below_grown5 hgrow6 HS5.out (own_base5 HO5.out)
              have ho6 : w6.ownsRow M 50 2 v6 k ((spansCells (wantsT lc)).take (k * 2)) := by simpa using hown6
              have HO6 := Lib.hid ho6
              clear ho6
              have HB6 : Hid (Below M w4 w6) := HB5.out.trans hb6
              clear hown6 hgrow6 hb6 hw5 hM r0 r1 r2 r3
              have HS6 : Hid (M ≤ w6.heap.size) := HMS.out w6 HB6.out
              obtain ⟨a0, a1, hbl⟩ := HARG.out _ (HKEEP.out w6 HB6.out).1.bel
              skip
              obtain ⟨B7, hB7⟩ : ∃ B7, w6.heap.size = B7 := ⟨_, rfl⟩
              obtain ⟨w7, hw7⟩ : ∃ w7, w6.alloc (.cells #[.int .i64 x1, .int .i64 x2] 50) = w7 := ⟨_, rfl⟩
              have hb7 : Below w6.heap.size w6 w7 := by rw [← hw7]; exact (Below.refl _ w6).alloc (Nat.le_refl _) _
              have HN7 : Hid (∀ j u, [Value.int .i64 x1, .int .i64 x2][j]? = some u → w7.cell? ((⟨B7, 0, none⟩ : Addr).add j) = some u) := by rw [← hw7]; exact news_two w6 B7 hB7 50 x1 x2
              have HO7 := Lib.hid (own_below5 HO6.out hb7)
              have HB7 : Hid (Below M w4 w7) := HB6.out.trans (hb7.mono HS6.out)
              have HS7 : Hid (M ≤ w7.heap.size) := HMS.out w7 HB7.out
              have HE7 : Hid (∀ u ∈ [Value.int .i64 x1, .int .i64 x2], u.oneCell' = true) := fun u hu => by simp at hu; rcases hu with rfl | rfl <;> rfl
              have HM7 : Hid (k + 1 ≤ maxLen) := by show _ ≤ _; unfold maxLen; omega
              have HY7 : Hid ((k + 1) * 16 ≤ 140737488355328) := by show _ ≤ _; omega
              clear hb7
              obtain ⟨A6, c6, hv6⟩ := own_form HO7.out
              subst hv6
              go_wp2_with (at_builtin; refine wpList_append_own _ rfl _ _ 22 rfl M 50 j0 (.agg #[.int .i64 0, .int .i64 0]) 2 16 Try.underlying22 hj hy0 hy1 hy2 rfl (by decide) _ _ _ rfl HO7.out ⟨B7, 0, none⟩ 1 1 [.int .i64 x1, .int .i64 x2] rfl rfl HN7.out HE7.out HM7.out HY7.out HS7.out ?_)
              intro v8 w8 hown8 hgrow8 _
              have hb8 : Below M w7 w8 := below_grown5 hgrow8 HS7.out (own_base5 HO7.out)
              have HO8 : Hid (w8.ownsRow M 50 2 v8 (k + 1) ((spansCells (wantsT lc)).take (k * 2) ++ [.int .i64 x1, .int .i64 x2])) := hown8
              have HB8 : Hid (Below M w4 w8) := HB7.out.trans hb8
              have HS8 : Hid (M ≤ w8.heap.size) := HMS.out w8 HB8.out
              obtain ⟨A8, c8, hv8⟩ := own_form HO8.out
              subst hv8
              clear hown8 hgrow8 hb8 hw7 hB7 a0 a1 hbl
              obtain ⟨r0, r1, r2, r3⟩ := two_heads (HKEEP.out w8 HB8.out).1.own
              have HC8 : Hid (∀ j u, ([] : List Value)[j]? = some u → w8.cell? ((⟨g, k * 2, none⟩ : Addr).add j) = some u) := fun j u hj => by simp at hj
              have HE8 : Hid (∀ u ∈ ([] : List Value), u.oneCell' = true) := fun u hu => by cases hu
              have HL8 : Hid (([] : List Value).length = 0 * 2) := rfl
              have HDR : Hid ((spansCells (wantsT lc)).drop (k * 2) = []) := List.drop_of_length_le (by rw [HXL.out]; exact Nat.le_refl _)
              have HM8 : Hid (k + 1 + 0 ≤ maxLen) := by show _ ≤ _; unfold maxLen; omega
              have HY8 : Hid ((k + 1 + 0) * 16 ≤ 140737488355328) := by show _ ≤ _; omega
              go_wp2_with (at_builtin; refine wpList_append_own _ rfl _ _ 22 rfl M 50 j0 (.agg #[.int .i64 0, .int .i64 0]) 2 16 Try.underlying22 hj hy0 hy1 hy2 rfl (by decide) _ _ _ rfl HO8.out ⟨g, k * 2, none⟩ 0 (c1 - k) [] rfl HL8.out HC8.out HE8.out HM8.out HY8.out HS8.out ?_)
              intro v9 w9 hown9 hgrow9 _
              have hb9 : Below M w8 w9 := below_grown5 hgrow9 HS8.out (own_base5 HO8.out)
              have ho9 : w9.ownsRow (N + 2) 50 2 v9 (k + 1) ((spansCells (wantsT lc)).take (k * 2) ++ [.int .i64 x1, .int .i64 x2] ++ (spansCells (wantsT lc)).drop (k * 2)) := by
                rw [HDR.out]
                simpa using own_mono5 hown9 HNM.out
              have HO9 := Lib.hid ho9
              clear ho9
              have HB9 : Hid (Below M w4 w9) := HB8.out.trans hb9
              clear hown9 hgrow9 hb9 r0 r1 r2 r3
              obtain ⟨r0, r1, r2, r3⟩ := two_heads (HKEEP.out w9 HB9.out).1.own
              obtain ⟨L9, hL9⟩ : ∃ L9, (spansCells (wantsT lc)).take (k * 2) ++ [.int .i64 x1, .int .i64 x2] ++ (spansCells (wantsT lc)).drop (k * 2) = L9 := ⟨_, rfl⟩
              have HL9 : Hid (spansCells (wantsT (newT (ps.take (k + 1)))) = L9) := by
                show _ = _
                rw [HNT.out, wants_ins HFU.out]
                exact hL9
              have ecnt : (k + 1) = k + 1 := by omega
              rw [hL9, ecnt] at HO9
              obtain ⟨A9, c9, hv9⟩ := own_form HO9.out
              clear hL9
              have HD9 := Lib.hid (HKEEP.out w9 HB9.out).1
              have HZ9 := Lib.hid (HKEEP.out w9 HB9.out).2.1
              have HD10 := Lib.hid (HD9.out.set0 v9)
              have HO10 : Hid ((w9.setCell ⟨N + 1, 0, none⟩ v9).ownsRow (N + 2) 50 2 v9 (k + 1) L9) := own_keep HO9.out fun q hq => Below.heap_setCell _ _ _ _ (show q ≠ N + 1 from fun e => own_ne HO9.out HD9.out.own (by decide) (by rw [← e]; exact hq))
              have HZ10 : Hid ((w9.setCell ⟨N + 1, 0, none⟩ v9).ownsRow (N + 2) 3 1 (.slice B1 k d1) k (gC lc)) := own_keep HZ9.out fun q hq => Below.heap_setCell _ _ _ _ (show q ≠ N + 1 from fun e => own_ne HZ9.out HD9.out.own (by decide) (by rw [← e]; exact hq))
              obtain ⟨w10, hw10⟩ : ∃ w10, w9.setCell ⟨N + 1, 0, none⟩ v9 = w10 := ⟨_, rfl⟩
              rw [hw10] at HD10 HO10 HZ10
              obtain ⟨q0, q1, q2, q3⟩ := two_heads HD10.out.own
              obtain ⟨B11, hB11⟩ : ∃ B11, w10.heap.size = B11 := ⟨_, rfl⟩
              obtain ⟨w11, hw11⟩ : ∃ w11, w10.alloc (.cells #[.int .i64 0] 3) = w11 := ⟨_, rfl⟩
              have hb11 : Below w10.heap.size w10 w11 := by rw [← hw11]; exact (Below.refl _ w10).alloc (Nat.le_refl _) _
              have HN11 : Hid (∀ j u, [Value.int .i64 0][j]? = some u → w11.cell? ((⟨B11, 0, none⟩ : Addr).add j) = some u) := by
                rw [← hw11, ← hB11]
                exact World.news_of_block (heap_alloc_new w10 _)
              have HZ11 := Lib.hid (own_below5 HZ10.out hb11)
              have HO11 := Lib.hid (own_below5 HO10.out hb11)
              have HD11 := Lib.hid (HD10.out.keep (hb11.mono HD10.out.lt))
              have HS11 : Hid (N + 2 ≤ w11.heap.size) := HD11.out.lt
              have HE11 : Hid (∀ u ∈ [Value.int .i64 0], u.oneCell' = true) := fun u hu => by simp at hu; rw [hu]; rfl
              have HM11 : Hid (k + 1 ≤ maxLen) := by show _ ≤ _; unfold maxLen; omega
              have HY11 : Hid ((k + 1) * 8 ≤ 140737488355328) := by show _ ≤ _; omega
              clear hb11
              subst hv9
              go_wp2_with (at_builtin; refine wpList_append_own _ rfl _ _ 30 rfl (N + 2) 3 i0 (.int .i64 0) 1 8 Try.underlying30 hi hz0 hz1 hz2 rfl (by decide) _ _ _ rfl HZ11.out ⟨B11, 0, none⟩ 1 1 [.int .i64 0] rfl rfl HN11.out HE11.out HM11.out HY11.out HS11.out ?_)
              intro v12 w12 hown12 hgrow12 _
              have hb12 : Below (N + 2) w11 w12 := below_grown5 hgrow12 HS11.out (own_base5 HZ11.out)
              have HO12 := Lib.hid (own_other HO11.out HZ11.out hgrow12 (by decide))
              have HZ12 : Hid (w12.ownsRow (N + 2) 3 1 v12 (k + 1) (gC (newT (ps.take (k + 1))))) := by
                show World.ownsRow _ _ _ _ _ _ _
                rw [HGZ.out]
                exact hown12
              have HD12 := Lib.hid (HD11.out.keep hb12)
              obtain ⟨B12, d12, hv12⟩ := own_form HZ12.out
              clear hown12 hgrow12 hb12 hw11 hB11 hw10 q0 q1 q2 q3 r0 r1 r2 r3
              obtain ⟨q0, q1, q2, q3⟩ := two_heads HD12.out.own
              have HD13 := Lib.hid (HD12.out.set1 v12)
              have HR13 : Hid (Rows2 (w12.setCell ⟨N + 1, 1, none⟩ v12) (N + 2) (.slice A9 (k + 1) c9) v12 (k + 1) (newT (ps.take (k + 1)))) := by
                refine ⟨?_, own_keep HZ12.out fun q hq => Below.heap_setCell _ _ _ _ (show q ≠ N + 1 from fun e => own_ne HZ12.out HD12.out.own (by decide) (by rw [← e]; exact hq))⟩
                rw [HL9.out]
                exact own_keep HO12.out fun q hq => Below.heap_setCell _ _ _ _ (show q ≠ N + 1 from fun e => own_ne HO12.out HD12.out.own (by decide) (by rw [← e]; exact hq))
              obtain ⟨w13, hw13⟩ : ∃ w13, w12.setCell ⟨N + 1, 1, none⟩ v12 = w13 := ⟨_, rfl⟩
              rw [hw13] at HD13 HR13
              subst hv12
              go_wp2_with fail
              go_roundg (n - (k + 1))
              case measure => have := HG.out; omega
              case rel => exact ⟨k + 1, _, _, by omega, rfl, by go_num, HD13.out, HR13.out, fun e => absurd e (Nat.succ_ne_zero _)⟩
    · have hltz : ¬ (i : Int) < (n : Int) := by omega
      have hin' : i = n := by omega
      have etake : ps.take i = ps := List.take_of_length_le (by have := HN.out; omega)
      rw [etake] at HR
      have HRO : Hid (RefOwn wr y z (newT ps)) := by
        have hlen : (newT ps).length = i := by rw [newT_len, HN.out, hin']
        refine ⟨?_, ?_⟩
        · show World.ownsRow _ 0 _ 2 _ (newT ps).length _
          rw [hlen]
          exact own_mono5 HR.out.ws (Nat.zero_le _)
        · show World.ownsRow _ 0 _ 1 _ (newT ps).length _
          rw [hlen]
          exact own_mono5 HR.out.gs (Nat.zero_le _)
      have HDN := Lib.hid (HD.out.done HRO.out)
      obtain ⟨t0, t1, t2, t3⟩ := two_heads HD.out.own
      obtain ⟨o0, o1, o2, o3⟩ := two_heads HD.out.res
      obtain ⟨A1, c1, hy⟩ := own_form HR.out.ws
      obtain ⟨B1, d1, hz⟩ := own_form HR.out.gs
      subst hy hz
      clear etake hin'
      go_wp2_with fail
      refine bodyPost_ret (v := .agg #[.slice A1 i c1, .slice B1 i d1]) (results_cell_row rfl _ _ N _ _ _ _ rfl HDN.out.1 Try.underlying32 rfl (Try.sizeRef _ _)) rfl ?_
      exact ⟨_, _, rfl, HDN.out.2⟩
end Go.Proofs.Ytngfcgegondmgaa
