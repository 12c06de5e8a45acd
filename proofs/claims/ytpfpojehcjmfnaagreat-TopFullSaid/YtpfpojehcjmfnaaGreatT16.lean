/-
  One want along the chain, of the program: its place, and what is left.
  Conditions: the rooms together are enough.
-/
import Derived.Test.YtpfpojehcjmfnaaGreatT15
import Derived.Test.YtpfpojehcjmfnaaGreatT13

/-
  One want along the chain, of the program: its place, and what is left.
  Conditions: the rooms together are enough.
-/
set_option linter.unusedVariables false
set_option linter.unusedSimpArgs false
namespace Go.Proofs.YtpfpojehcjmfnaaGreat
open Go.RowKit

theorem cur_ne {r : Nat → Nat} (h : 0 < sumTo r 16) : r (curN r) ≠ 0 ∧ curN r < 16 := by
  obtain ⟨h1, h2, h3⟩ := cur_some (r := r)
  refine ⟨fun e => ?_, by omega⟩
  rcases Nat.lt_or_ge (curN r) 15 with hc | hc
  · exact h3 hc e
  · have e15 : curN r = 15 := by omega
    have : sumTo r 16 = 0 := by
      rw [sumTo, sumTo_cur (fun i hi => h2 i (by omega)), ← e15, e]
    omega
/-- The place of a want; what it leaves of the rooms; the tick behind it. -/
noncomputable def placeX (n a : Nat) (r : Nat → Nat) (u : Int) (s : Nat) : Pl := if s ≤ r (curN r) then ⟨u, s, curN r, []⟩ else ⟨u, s, 0, pcsA n a r s⟩
def placeR (r : Nat → Nat) (s i : Nat) : Nat := if s ≤ r (curN r) then r i - (if i = curN r then s else 0) else r i - takeN r s i
def placeT (n a : Nat) (r : Nat → Nat) (s : Nat) : Nat := if s ≤ r (curN r) then a else (a + s) % n
/-- What is left behind the first c cores of a split unit. -/
def leftC (r : Nat → Nat) (s c i : Nat) : Nat := if i < c then r i - takeN r s i else r i
theorem next_core {r : Nat → Nat} {s c : Nat} (h : sumTo r c < s) (hs : s ≤ sumTo r 16) : ∃ e, c ≤ e ∧ e < 16 ∧ r e ≠ 0 ∧ (∀ i, c ≤ i → i < e → r i = 0) ∧ sumTo r e = sumTo r c := by
  have key : ∀ d, c + d ≤ 16 → (∀ i, c ≤ i → i < c + d → r i = 0) → sumTo r (c + d) = sumTo r c := by
    intro d
    induction d with
    | zero => intro _ _; rfl
    | succ d ih =>
      intro h1 h2
      rw [← Nat.add_assoc, sumTo, h2 (c + d) (by omega) (by omega), ih (by omega) fun i a b => h2 i a (by omega)]
      rfl
  have find : ∀ d, c + d ≤ 16 → (∃ e, c ≤ e ∧ e < c + d ∧ r e ≠ 0 ∧ ∀ i, c ≤ i → i < e → r i = 0) ∨ ∀ i, c ≤ i → i < c + d → r i = 0 := by
    intro d
    induction d with
    | zero => intro _; exact .inr fun i a b => by omega
    | succ d ih =>
      intro h1
      rcases ih (by omega) with ⟨e, e1, e2, e3⟩ | h0
      · exact .inl ⟨e, e1, by omega, e3⟩
      · by_cases hz : r (c + d) = 0
        · exact .inr fun i a b => by
            by_cases e : i = c + d
            · rw [e]; exact hz
            · exact h0 i a (by omega)
        · exact .inl ⟨c + d, by omega, by omega, hz, h0⟩
  have hc : c ≤ 16 := by
    rcases Nat.lt_or_ge 16 c with h1 | h1
    · have := sumTo_mono r (Nat.le_of_lt h1)
      omega
    · exact h1
  obtain ⟨d, hd⟩ : ∃ d, c + d = 16 := ⟨16 - c, by omega⟩
  rcases find d (by omega) with ⟨e, e1, e2, e3, e4⟩ | h0
  · obtain ⟨j, rfl⟩ : ∃ j, e = c + j := ⟨e - c, by omega⟩
    exact ⟨c + j, e1, by omega, e3, e4, key j (by omega) e4⟩
  · have := key d (by omega) h0
    rw [hd] at this
    omega
/-- One core more. -/
theorem left_next {r : Nat → Nat} {s c e : Nat} (h : sumTo r c < s) (e1 : c ≤ e) (e4 : ∀ i, c ≤ i → i < e → r i = 0) (e5 : sumTo r e = sumTo r c) :
    loN r s e = loN r s c ∧ min (s - loN r s c) (r e) = takeN r s e ∧ loN r s (e + 1) = loN r s c + takeN r s e ∧ (∀ i, (if i = e then r e - takeN r s e else leftC r s c i) = leftC r s (e + 1) i) ∧ (∀ i, i < e → leftC r s c i = 0) ∧ leftC r s c e = r e := by
  have k1 : loN r s e = loN r s c := by unfold loN; rw [e5]
  have k2 : loN r s c = sumTo r c := by unfold loN; omega
  have k0 : ∀ i, i < e → leftC r s c i = 0 := fun i hi => by
    unfold leftC
    by_cases hc : i < c
    · rw [if_pos hc, take_all (by have := sumTo_mono r (show i + 1 ≤ c by omega); omega)]
      omega
    · rw [if_neg hc]
      exact e4 i (by omega) hi
  refine ⟨k1, ?_, by rw [lo_succ, k1], fun i => ?_, k0, by unfold leftC; rw [if_neg (by omega)]⟩
  · rw [k2]; unfold takeN; rw [e5]; omega
  · by_cases hi : i = e
    · subst hi
      rw [if_pos rfl]
      unfold leftC
      rw [if_pos (by omega)]
    · rw [if_neg hi]
      by_cases h2 : i < e
      · rw [k0 i h2]
        unfold leftC
        rw [if_pos (by omega), take_all (by have := sumTo_mono r (show i + 1 ≤ e by omega); omega)]
        omega
      · unfold leftC
        rw [if_neg (by omega), if_neg (by omega)]
theorem pcs_next {n a s c e : Nat} {r : Nat → Nat} (e1 : c ≤ e) (e4 : ∀ i, c ≤ i → i < e → r i = 0) (ht : takeN r s e ≠ 0) : pcsC n a r s (e + 1) = pcsC n a r s c ++ [pcAt n a r s e] := by
  rw [pcsC, if_neg ht, pcsC_upto e1 fun i h1 h2 => by unfold takeN; rw [e4 i h1 h2]; omega]
/-- What place answers. -/
def RetPlace (C R n : Nat) (a : Nat) (r : Nat → Nat) (u : Int) (s : Nat) (W : World) (e : Ending) (w' : World) : Prop :=
  ∃ v core, e = .returned (plA v (placeX n a r u s)) ∧ PcsIn (fun b => W.heap.size ≤ b) w' v (placeX n a r u s).ps ∧ ChAt w' C R n (fun i => (placeR r s i : Int)) core (placeT n a r s) ∧ (∀ i, i < core → placeR r s i = 0) ∧ Apart (fun b => b = C ∨ b = R) W w'

/-- Some cores behind: the pieces so far in a row of the call's own, the place in block X. -/
structure PcSt (C R n N4 X B : Nat) (u : Int) (s : Nat) (W wr : World) (v : Value) (ps : List Pc) (g : Nat → Int) (core tick : Nat) : Prop where
  ch : ChAt wr C R n g core tick
  ap : Apart (fun b => b = C ∨ b = R) W wr
  n4 : wr.heap[N4]? = some (.cells #[.int .i64 0, .int .i64 0, .int .i64 0, .slice none 0 0] 48 (0, 0))
  x : wr.heap[X]? = some (.cells #[.int .i64 u, .int .i64 s, .int .i64 0, v] 48 (0, 0))
  own : wr.ownsRow B 84 2 v ps.length (pcsCells ps)
  sz : B ≤ wr.heap.size
theorem wp_append_own {P : Program} {o : Oper} {a : Act} {w : World} {K : Act → World → Prop} {Q : Exit → Act → World → Prop} (s x : Operand) (t : TypeId)
    (ho : o.op = .call { callee := .builtin .append, args := #[s, x], argTypes := #[t, t] })
    (base : Nat) (e : TypeId) (i : TypeInfo) (z : Value) (size bytes : Nat) (ht : P.underlying t = some (.slice e)) (hi : P.info? e = some i) (hz : i.zero = some z)
    (hsize : i.size = size) (hby : i.bytes = bytes) (hzs : z.cells.size = size) (hsz : 0 < size)
    (v : Value) (n : Nat) (xs : List Value) (hs : a.eval s = v) (hown : w.ownsRow base e size v n xs)
    (ad : Addr) (m c : Nat) (news : List Value) (hx : a.eval x = .slice (some ad) m c) (hl : news.length = m * size) (hnews : ∀ j u, news[j]? = some u → w.cell? (ad.add j) = some u) (h1 : ∀ u ∈ news, u.oneCell' = true)
    (h63 : n + m ≤ maxLen) (hbytes : (n + m) * bytes ≤ 140737488355328) (hbase : base ≤ w.heap.size)
    (h : ∀ v' w', w'.ownsRow base e size v' (n + m) (xs ++ news) → w.grownBy w' v.ownBlock → (v' = .slice none 0 0 ↔ v = .slice none 0 0 ∧ m = 0) → (v'.ownBlock = v.ownBlock ∨ v'.ownBlock = some w.heap.size) → K (a.put o.dst v') w') : o.wp P a w K Q := by
  obtain ⟨v', w', hr, h2, h3, h4, h5⟩ := run_append_own_at (P := P) w base t o.type e i z size bytes ht hi hz hsize hby hzs hsz v n xs hown ad m c news hl hnews h1 h63 hbytes hbase
  unfold Oper.wp execOp
  simp only [ho, resolve, invoke, builtin, Sem.run_bind, Sem.run_pure, Result.andThen_ok, List.map_toArray, List.map_cons, List.map_nil, hs, hx, hr]
  exact h v' w' h2 h3 h4 h5
theorem PcSt.chg {C R n N4 X B : Nat} {u : Int} {s : Nat} {W wr w' : World} {v : Value} {ps : List Pc} {g g' : Nat → Int} {core core' tick tick' : Nat} (h : PcSt C R n N4 X B u s W wr v ps g core tick) (hc : ChAt w' C R n g' core' tick') (ha : Apart (fun b => b = C ∨ b = R) wr w')
    (hne : ∀ b, W.heap.size ≤ b → ¬ (b = C ∨ b = R)) (h4 : W.heap.size ≤ N4) (hX : W.heap.size ≤ X) (hB : W.heap.size ≤ B) : PcSt C R n N4 X B u s W w' v ps g' core' tick' :=
  ⟨hc, h.ap.trans ha fun _ _ e => e, (ha.block N4 (heap_lt h.n4) (hne _ h4)).trans h.n4, (ha.block X (heap_lt h.x) (hne _ hX)).trans h.x, own_keep h.own fun k hk => ha.block k (own_lt h.own hk) (hne k (by have := own_base5 h.own k hk; omega)), Nat.le_trans h.sz ha.size⟩
theorem pcsCells_snoc (q : List Pc) (y : Pc) : pcsCells (q ++ [y]) = pcsCells q ++ [.int .i64 y.c, .int .u64 y.t] := by simp [pcsCells, pcCells]
/-- A piece more: the row grows, the place holds it. -/
theorem PcSt.more {C R n N4 X B : Nat} {u : Int} {s : Nat} {W wr wA : World} {v v2 : Value} {q : List Pc} {g : Nat → Int} {core tick : Nat} {y : Pc} (h : PcSt C R n N4 X B u s W wr v q g core tick) (ha : Apart (fun b => v.ownBlock = some b) wr wA)
    (hown : wA.ownsRow B 84 2 v2 (q.length + 1) (pcsCells q ++ [.int .i64 y.c, .int .u64 y.t])) (hl : C < X ∧ R < X ∧ N4 < X ∧ X < B ∧ W.heap.size ≤ X) : PcSt C R n N4 X B u s W (wA.setCell ⟨X, 3, none⟩ v2) v2 (q ++ [y]) g core tick := by
  have hne : ∀ b, b ≤ X → ¬ v.ownBlock = some b := fun b hb e => by have := own_base5 h.own b e; omega
  have hx := (ha.block X (heap_lt h.x) (hne X (Nat.le_refl _))).trans h.x
  refine ⟨⟨(heap_other wA _ (by omega)).trans ((ha.block C (heap_lt h.ch.box) (hne C (by omega))).trans h.ch.box), (heap_other wA _ (by omega)).trans ((ha.block R (heap_lt h.ch.row) (hne R (by omega))).trans h.ch.row), h.ch.ne⟩, ?_, (heap_other wA _ (by omega)).trans ((ha.block N4 (heap_lt h.n4) (hne N4 (by omega))).trans h.n4), heap_setCell_mem _ _ _ _ _ _ _ hx, ?_, by have := h.sz; have := ha.size; simp [World.setCell]; omega⟩
  · refine Apart.set (p := ⟨X, 3, none⟩) (h.ap.trans ha fun b hb e => ?_) (.inr (by show W.heap.size ≤ X; omega)) _
    have := own_base5 h.own b e
    omega
  · rw [List.length_append, List.length_singleton, pcsCells_snoc]
    exact own_keep hown fun k hk => heap_other wA _ (by have := own_base5 hown k hk; omega)

set_option maxRecDepth 100000 in
set_option maxHeartbeats 8000000 in
theorem chPlace_any (W : World) (C R n a core : Nat) (r : Nat → Nat) (u : Int) (s : Nat) (h : ChAt W C R n (fun i => (r i : Int)) core a) (hn2 : 2 ≤ n) (hn : n ≤ 64) (ha : a < n) (hr : ∀ i, i < 16 → r i ≤ n) (hcore : ∀ i, i < core → r i = 0) (hs1 : 1 ≤ s) (hs : s ≤ n) (hsum : s ≤ sumTo r 16) :
    Calls Tryz.prog 83 #[.pointer (some ⟨C, 0, none⟩), .agg #[.int .i64 u, .int .i64 s]] W (RetPlace C R n a r u s W) := by
  have mixed : Tryz.prog.follows .mixedOrders = true := by kernel_rfl
  obtain ⟨i0, hi0, hz0, hz1, hz2⟩ := info_parts Tryz.infoPc
  obtain ⟨hk0, hk16⟩ := cur_ne (r := r) (by omega)
  obtain ⟨_, hkz, _⟩ := cur_some (r := r)
  have hck : core ≤ curN r := by
    rcases Nat.lt_or_ge (curN r) core with h | h
    · exact absurd (hcore _ h) hk0
    · exact h
  have hrk := hr _ hk16
  obtain ⟨w1, N3, hw1, hN3, hN3l, hb1, hn3⟩ := box_any W #[.int .i64 u, .int .i64 s] 52
  obtain ⟨w2, N4, hw2, hN4, hN4l, hb2, hn4⟩ := box_any w1 #[.int .i64 0, .int .i64 0, .int .i64 0, .slice none 0 0] 48
  obtain ⟨w3, X, hw3, hX, hXl, hb3, hx3⟩ := box_any w2 #[.int .i64 0, .int .i64 0, .int .i64 0, .slice none 0 0] 48
  have HB3 := Lib.hid (hb1.trans ((hb2.mono hb1.size).trans (hb3.mono (Nat.le_trans hb1.size hb2.size))))
  have HN3 := Lib.hid (keep_block (keep_block hn3 hb2) hb3)
  have HN4 := Lib.hid (keep_block hn4 hb3)
  have HX3 := Lib.hid hx3
  have HCL := Lib.hid (show C < W.heap.size ∧ R < W.heap.size from ⟨heap_lt h.box, heap_lt h.row⟩)
  have HLT := Lib.hid (show W.heap.size ≤ N3 ∧ N3 < N4 ∧ N4 < X ∧ X < w3.heap.size by omega)
  have HCH := Lib.hid (h.keep HB3.out)
  have HKZ := Lib.hid hkz
  have HR := Lib.hid hr
  have HCO := Lib.hid hcore
  have HK0 := Lib.hid hk0
  obtain ⟨n0, n1⟩ := two_heads (keep_block hn3 hb2)
  clear h hb1 hb2 hb3 hn3 hn4 hx3 hkz hr hcore hk0
  go_enter Tryz.func83, Tryz.ntmps83
  obtain ⟨w4, hw4⟩ : ∃ w4, w3.setRow X #[.int .i64 u, .int .i64 s, .int .i64 0, .slice none 0 0] = w4 := ⟨_, rfl⟩
  have hb4 : Below W.heap.size W w4 := by rw [← hw4]; exact below_row HB3.out (by have := HLT.out; omega) _
  have HX4 : Hid (w4.heap[X]? = some (.cells #[.int .i64 u, .int .i64 s, .int .i64 0, .slice none 0 0] 48 (0, 0))) := Lib.hid (by rw [← hw4]; exact setRow_heap _ _ _ _ _ _ HX3.out)
  have HN34 : Hid (w4.heap[N3]? = some (.cells #[.int .i64 u, .int .i64 s] 52 (0, 0))) := Lib.hid (by rw [← hw4, setRow_other _ _ _ _ (by have := HLT.out; omega)]; exact HN3.out)
  have HN44 : Hid (w4.heap[N4]? = some (.cells #[.int .i64 0, .int .i64 0, .int .i64 0, .slice none 0 0] 48 (0, 0))) := Lib.hid (by rw [← hw4, setRow_other _ _ _ _ (by have := HLT.out; omega)]; exact HN4.out)
  have HC4 : Hid (ChAt w4 C R n (fun i => (r i : Int)) core a) := Lib.hid (by
    have hc := HCH.out
    have hl := HCL.out
    have hl2 := HLT.out
    rw [← hw4]
    exact ⟨(setRow_other _ _ _ _ (by omega)).trans hc.box, (setRow_other _ _ _ _ (by omega)).trans hc.row, hc.ne⟩)
  have HB4 := Lib.hid hb4
  have HS4 := Lib.hid (show X < w4.heap.size from heap_lt HX4.out)
  have HSK := Lib.hid (skip_any w4 C R n (fun i => (r i : Int)) core a (curN r) HC4.out hck hk16 (by have := HK0.out; simpa using this) (fun i _ hi => by have := HKZ.out i hi; simpa using this))
  clear hb4
  go_wp2_with (refine wpList_store_row rfl _ _ _ rfl X #[.int .i64 u, .int .i64 s, .int .i64 0, .slice none 0 0] rfl rfl 48 _ HX3.out (Tryz.sizePl _ _ _ _) rfl (one4 _ _ _ _ _ _) ?_)
  refine HSK.out.mono ?_
  rintro e w5 ⟨rfl, hc5, ha5⟩
  have HC5 := Lib.hid hc5
  have HA5 := Lib.hid ((Apart.of_below (F := fun b => b = C ∨ b = R) HB4.out).trans ha5 fun _ _ e => e)
  have hne : ∀ b, W.heap.size ≤ b → ¬ (b = C ∨ b = R) := fun b hb => by have := HCL.out; omega
  have HNE := Lib.hid hne
  have HX5 := Lib.hid ((ha5.block X (heap_lt HX4.out) (hne X (by have := HLT.out; omega))).trans HX4.out)
  have HN35 := Lib.hid ((ha5.block N3 (heap_lt HN34.out) (hne N3 (by have := HLT.out; omega))).trans HN34.out)
  have HN45 := Lib.hid ((ha5.block N4 (heap_lt HN44.out) (hne N4 (by have := HLT.out; omega))).trans HN44.out)
  obtain ⟨x, hx⟩ : ∃ x, r (curN r) = x := ⟨_, rfl⟩
  have HX := Lib.hid hx
  obtain ⟨c1, hc1⟩ : ∃ c1, curN r = c1 := ⟨_, rfl⟩
  have HCU := Lib.hid hc1
  have hxz : ((r (curN r) : Nat) : Int) = (x : Int) := by rw [hx]
  rw [hc1] at hk16 hck hc5 HC5 HKZ hxz
  have hxn : x ≤ n := by rw [← hx]; exact hrk
  obtain ⟨a0, a1, a2, a3, z2, z3⟩ := hc5.heads
  have a4 := hc5.row.cell hk16
  rw [hxz] at a4
  obtain ⟨q0, q1⟩ := two_heads HN35.out
  have hkz : (c1 : Int) < 16 := by omega
  have hkz0 : (0 : Int) ≤ (c1 : Int) := by omega
  clear hc5 ha5 hne hx hc1 hw4 hw3 hw2 hw1 hX hN4 hN3 n0 n1 hrk HSK hxz
  go_wp2_with fail
  by_cases hsx : s ≤ x
  · have hd : decide ((s : Int) ≤ (x : Int)) = true := decide_eq_true (by omega)
    have hd2 : (s : Int) ≤ (x : Int) := by omega
    go_quiet (fail)
    have HC6 := Lib.hid (HC5.out.drewN nq)
    have HA6 := Lib.hid (HA5.out.drewN nq)
    have HX6 : Hid ((w5.drewN nq).heap[X]? = some (.cells #[.int .i64 u, .int .i64 s, .int .i64 0, .slice none 0 0] 48 (0, 0))) := HX5
    have HN36 : Hid ((w5.drewN nq).heap[N3]? = some (.cells #[.int .i64 u, .int .i64 s] 52 (0, 0))) := HN35
    have HN46 : Hid ((w5.drewN nq).heap[N4]? = some (.cells #[.int .i64 0, .int .i64 0, .int .i64 0, .slice none 0 0] 48 (0, 0))) := HN45
    generalize w5.drewN nq = w6 at *
    clear a0 a1 a2 a3 a4 z2 z3 q0 q1
    have hxz : ((r c1 : Nat) : Int) = (x : Int) := by rw [← HX.out, HCU.out]
    have HXZ := Lib.hid hxz
    obtain ⟨a0, a1, a2, a3, z2, z3⟩ := HC6.out.heads
    have a4 := HC6.out.row.cell hk16
    have a5 := HC6.out.row.frozen c1
    rw [hxz] at a4
    obtain ⟨q0, q1⟩ := two_heads HN36.out
    clear hxz
    go_wp2_with fail
    go_region
    clear a0 a1 a2 a3 a4 a5 z2 z3 q0 q1
    have HC7 := Lib.hid ((HC6.out.setRoom c1 ((x : Int) - (s : Int))).drew)
    have HA7 := Lib.hid ((HA6.out.set (p := ⟨R, c1, none⟩) (.inl (.inr rfl)) (.int .i64 ((x : Int) - (s : Int)))).drewN 1)
    have hXR : X ≠ R := fun e => HNE.out X (by have := HLT.out; omega) (.inr e)
    have hNR : N4 ≠ R := fun e => HNE.out N4 (by have := HLT.out; omega) (.inr e)
    have HX7 : Hid ((w6.setCell ⟨R, c1, none⟩ (.int .i64 ((x : Int) - (s : Int)))).drew.heap[X]? = some (.cells #[.int .i64 u, .int .i64 s, .int .i64 0, .slice none 0 0] 48 (0, 0))) := Lib.hid ((heap_other w6 _ hXR).trans HX6.out)
    have HN47 : Hid ((w6.setCell ⟨R, c1, none⟩ (.int .i64 ((x : Int) - (s : Int)))).drew.heap[N4]? = some (.cells #[.int .i64 0, .int .i64 0, .int .i64 0, .slice none 0 0] 48 (0, 0))) := Lib.hid ((heap_other w6 _ hNR).trans HN46.out)
    change Hid (Apart _ _ (w6.setCell ⟨R, c1, none⟩ (.int .i64 ((x : Int) - (s : Int)))).drew) at HA7
    generalize (w6.setCell ⟨R, c1, none⟩ (.int .i64 ((x : Int) - (s : Int)))).drew = w7 at *
    obtain ⟨a0, a1, a2, a3, z2, z3⟩ := HC7.out.heads
    obtain ⟨x0, x1, x2, x3⟩ := four_heads HX7.out
    have x5 : w7.frozen? ⟨X, 2, none⟩ = false := by have e := HX7.out; simp [World.frozen?, e]
    have HC8 := Lib.hid (⟨(heap_other w7 (.int .i64 (c1 : Int)) (b := X) (o := 2) (fun e => HNE.out X (by have := HLT.out; omega) (.inl e.symm))).trans HC7.out.box, (heap_other w7 (.int .i64 (c1 : Int)) (b := X) (o := 2) (fun e => hXR e.symm)).trans HC7.out.row, HC7.out.ne⟩ : ChAt (w7.setCell ⟨X, 2, none⟩ (.int .i64 (c1 : Int))) C R n (fun i => if i = c1 then (x : Int) - (s : Int) else (r i : Int)) c1 a)
    have HA8 := Lib.hid (HA7.out.set (p := ⟨X, 2, none⟩) (.inr (by show W.heap.size ≤ X; have := HLT.out; omega)) (.int .i64 (c1 : Int)))
    have HX8 : Hid ((w7.setCell ⟨X, 2, none⟩ (.int .i64 (c1 : Int))).heap[X]? = some (.cells #[.int .i64 u, .int .i64 s, .int .i64 c1, .slice none 0 0] 48 (0, 0))) := Lib.hid (heap_setCell_mem _ _ _ _ _ _ _ HX7.out)
    have HN48 : Hid ((w7.setCell ⟨X, 2, none⟩ (.int .i64 (c1 : Int))).heap[N4]? = some (.cells #[.int .i64 0, .int .i64 0, .int .i64 0, .slice none 0 0] 48 (0, 0))) := Lib.hid ((heap_other w7 _ (by have := HLT.out; omega)).trans HN47.out)
    obtain ⟨w8, hw8⟩ : ∃ w8, w7.setCell ⟨X, 2, none⟩ (.int .i64 (c1 : Int)) = w8 := ⟨_, rfl⟩
    rw [hw8] at HC8 HA8 HX8 HN48
    have HEND : Hid (RetPlace C R n a r u s W (.returned (.agg #[.int .i64 u, .int .i64 s, .int .i64 c1, .slice none 0 0])) (w8.setRow N4 #[.int .i64 u, .int .i64 s, .int .i64 c1, .slice none 0 0])) := Lib.hid (by
      have hcu := HCU.out
      have hx := HX.out
      have e1 : placeX n a r u s = ⟨u, s, c1, []⟩ := by
        unfold placeX
        rw [hx, if_pos hsx, hcu]
      have e2 : placeT n a r s = a := by
        unfold placeT
        rw [hx, if_pos hsx]
      have e3 : ∀ i, placeR r s i = r i - (if i = c1 then s else 0) := fun i => by
        unfold placeR
        rw [hx, if_pos hsx, hcu]
      have hNC : N4 ≠ C ∧ N4 ≠ R := ⟨fun e => HNE.out N4 (by have := HLT.out; omega) (.inl e), fun e => HNE.out N4 (by have := HLT.out; omega) (.inr e)⟩
      refine ⟨.slice none 0 0, c1, by rw [e1]; rfl, by rw [e1]; exact PcsIn.nil _ _, ?_, fun i hi => ?_, ?_⟩
      · rw [e2]
        refine ChAt.congr (g := fun i => if i = c1 then (x : Int) - (s : Int) else (r i : Int)) ⟨(setRow_other _ _ _ _ hNC.1.symm).trans HC8.out.box, (setRow_other _ _ _ _ hNC.2.symm).trans HC8.out.row, HC8.out.ne⟩ fun i _ => ?_
        show (if i = c1 then (x : Int) - (s : Int) else (r i : Int)) = _
        rw [e3]
        have hxz := HXZ.out
        by_cases h : i = c1
        · subst h
          rw [if_pos rfl, if_pos rfl]
          omega
        · rw [if_neg h, if_neg h]
          omega
      · rw [e3, if_neg (by omega), HKZ.out i hi]
      · exact HA8.out.trans (F' := fun b => b = N4) ⟨rfl, rfl, rfl, by simp, fun k _ hne => setRow_other _ _ _ _ hne⟩ fun y hy e => by have := HLT.out; omega)
    obtain ⟨y0, y1, y2, y3⟩ := four_heads HX8.out
    go_wp2_with (refine wpList_store_row rfl _ _ _ rfl N4 #[.int .i64 u, .int .i64 s, .int .i64 c1, .slice none 0 0] rfl rfl 48 _ HN48.out (Tryz.sizePl _ _ _ _) rfl (one4 _ _ _ _ _ _) ?_)
    refine bodyPost_ret (v := .agg #[.int .i64 u, .int .i64 s, .int .i64 c1, .slice none 0 0]) (results_cell_row rfl _ _ N4 _ _ _ _ rfl (setRow_heap _ _ _ _ _ _ HN48.out) Tryz.underlying48 rfl (Tryz.sizePl _ _ _ _)) rfl ?_
    exact HEND.out
  · have hd : decide ((s : Int) ≤ (x : Int)) = false := decide_eq_false (by omega)
    go_quiet (fail)
    have HC6 := Lib.hid (HC5.out.drewN nq)
    have HA6 := Lib.hid (HA5.out.drewN nq)
    have HX6 : Hid ((w5.drewN nq).heap[X]? = some (.cells #[.int .i64 u, .int .i64 s, .int .i64 0, .slice none 0 0] 48 (0, 0))) := HX5
    have HN36 : Hid ((w5.drewN nq).heap[N3]? = some (.cells #[.int .i64 u, .int .i64 s] 52 (0, 0))) := HN35
    have HN46 : Hid ((w5.drewN nq).heap[N4]? = some (.cells #[.int .i64 0, .int .i64 0, .int .i64 0, .slice none 0 0] 48 (0, 0))) := HN45
    generalize w5.drewN nq = w6 at *
    clear a0 a1 a2 a3 a4 z2 z3 q0 q1
    obtain ⟨q0, q1⟩ := two_heads HN36.out
    obtain ⟨B, hB⟩ : ∃ B, w6.heap.size = B := ⟨_, rfl⟩
    have HST0 : Hid (PcSt C R n N4 X B u s W w6 (.slice none 0 0) (pcsC n a r s 0) (fun i => (leftC r s 0 i : Int)) c1 ((a + loN r s 0) % n)) := Lib.hid ⟨by
      rw [lo_zero, Nat.add_zero, Nat.mod_eq_of_lt ha]
      exact HC6.out.congr fun i _ => by unfold leftC; rw [if_neg (Nat.not_lt_zero _)], HA6.out, HN46.out, HX6.out, World.ownsRow_nil _ _ _ _, Nat.le_of_eq hB.symm⟩
    have HZ0 : Hid (∀ i, i < c1 → leftC r s 0 i = 0) := Lib.hid fun i hi => by unfold leftC; rw [if_neg (Nat.not_lt_zero _)]; exact HKZ.out i hi
    have HBS := Lib.hid hB
    have HBX : Hid (X < B ∧ W.heap.size ≤ B) := Lib.hid (by
      have h1 := heap_lt HX6.out
      have h2 := HA6.out.size
      omega)
    go_wp2_with fail
    clear q0 q1
    go_loopg [6, 7] 16 (fun gg s6 _ wr => ∃ (c co : Nat) (v : Value), c ≤ 16 ∧ gg = 16 - c ∧ s6 = .int .i64 ((s - loN r s c : Nat) : Int) ∧ PcSt C R n N4 X B u s W wr v (pcsC n a r s c) (fun i => (leftC r s c i : Int)) co ((a + loN r s c) % n) ∧ ∀ i, i < co → leftC r s c i = 0)
    case atStart => exact ⟨0, c1, .slice none 0 0, Nat.zero_le _, rfl, by rw [lo_zero]; rfl, HST0.out, HZ0.out⟩
    case round =>
      obtain ⟨c, co, v, hc, hg, rfl, hst, hco⟩ := hrel
      have HG := Lib.hid hg
      have HST := Lib.hid hst
      obtain ⟨k, hk⟩ : ∃ k, loN r s c = k := ⟨_, rfl⟩
      have HK := Lib.hid hk
      by_cases hlt : k < s
      · have hpos : decide ((0 : Int) < ((s - k : Nat) : Int)) = true := decide_eq_true (by omega)
        have hsc : sumTo r c < s := by unfold loN at hk; omega
        obtain ⟨e, e1, e2, e3, e4, e5⟩ := next_core hsc hsum
        obtain ⟨k1, k2, k3, k4, k5, k6⟩ := left_next hsc e1 e4 e5
        have hce : co ≤ e := by
          rcases Nat.lt_or_ge e co with h | h
          · have := hco e h
            omega
          · exact h
        obtain ⟨τ, hτ⟩ : ∃ τ, takeN r s e = τ := ⟨_, rfl⟩
        obtain ⟨ρ, hρ⟩ : ∃ ρ, s - k = ρ := ⟨_, rfl⟩
        rw [hk] at k1 k2 k3 hst
        rw [hτ] at k2 k3
        rw [hρ] at k2 hpos
        have hre := HR.out e e2
        have hτ0 : 0 < τ := by omega
        have hτn : τ ≤ n := by omega
        have hτρ : τ ≤ ρ := by omega
        have hρs : ρ ≤ s := by omega
        obtain ⟨t0, ht0⟩ : ∃ t0, (a + k) % n = t0 := ⟨_, rfl⟩
        have ht0n : t0 < n := by rw [← ht0]; exact Nat.mod_lt _ (by omega)
        rw [ht0] at hst
        have HTK : Hid (Calls Tryz.prog 134 #[.pointer (some ⟨C, 0, none⟩), .int .i64 ρ] wr (ChPost C R n (.int .i64 τ) (fun i => (leftC r s (e + 1) i : Int)) e t0 wr)) := Lib.hid (by
          refine (take_any wr C R n (fun i => (leftC r s c i : Int)) co t0 e ρ hst.ch hce e2 (by show (0 : Int) < (leftC r s c e : Int); omega) (fun i h1 h2 => by show (leftC r s c i : Int) = 0; rw [k5 i h2]; rfl) (by show (leftC r s c e : Int) ≤ 1000; omega) (by omega) (by omega)).mono fun en w' h => ?_
          obtain ⟨h1, h2, h3⟩ := h
          have hmin : min (ρ : Int) ((leftC r s c e : Nat) : Int) = (τ : Int) := by rw [k6]; omega
          have h1' : en = .returned (.int .i64 (min (ρ : Int) ((leftC r s c e : Nat) : Int))) := h1
          rw [hmin] at h1'
          refine ⟨h1', h2.congr fun i _ => ?_, h3⟩
          show (if i = e then ((leftC r s c e : Nat) : Int) - min (ρ : Int) ((leftC r s c e : Nat) : Int) else (leftC r s c i : Int)) = _
          rw [hmin, k6, ← k4 i, hτ]
          by_cases h : i = e
          · rw [if_pos h, if_pos h]; omega
          · rw [if_neg h, if_neg h])
        obtain ⟨q, hq⟩ : ∃ q, pcsC n a r s c = q := ⟨_, rfl⟩
        have hql : q.length ≤ 16 := by rw [← hq]; exact Nat.le_trans (pcsC_few c) hc
        obtain ⟨tm, htm⟩ : ∃ tm, roundN n τ t0 = tm := ⟨_, rfl⟩
        have HNX : Hid (pcsC n a r s (e + 1) = q ++ [⟨(e : Int), tm⟩]) := Lib.hid (by
          rw [pcs_next e1 e4 (by omega), hq]
          unfold pcAt
          rw [hτ, k1, ht0, htm])
        have HRD : Hid (∀ w, Calls Tryz.prog 135 #[.int .i64 n, .int .i64 t0, .int .i64 τ] w (RetB (.int .u64 tm) w)) := Lib.hid fun w => by
          have h := round_any n t0 τ w
          rw [show frN (n : Int) = n by unfold frN; omega, show frN (τ : Int) = τ by unfold frN; omega, show modN (t0 : Int) n = t0 by unfold modN; rw [Int.emod_eq_of_lt (by omega) (by omega)]; exact Int.toNat_natCast _, htm] at h
          exact h
        have HK4 := Lib.hid k4
        have HTN : Hid ((t0 + τ) % n = (a + loN r s (e + 1)) % n) := Lib.hid (by rw [k3, ← ht0, Nat.mod_add_mod, Nat.add_assoc])
        have HRN : Hid (s - loN r s (e + 1) = ρ - τ) := Lib.hid (by rw [k3]; omega)
        have HZN : Hid (∀ i, i < e → leftC r s (e + 1) i = 0) := Lib.hid fun i hi => by
          rw [← k4 i, if_neg (by omega)]
          exact k5 i hi
        have HQL := Lib.hid hql
        have HCE := Lib.hid e1
        rw [hq, hk, ht0] at HST
        rw [hk, hρ]
        have HLX : Hid (C < X ∧ R < X ∧ N4 < X ∧ X < B ∧ W.heap.size ≤ X) := Lib.hid (by have := HCL.out; have := HLT.out; have := HBX.out; omega)
        clear hst hτ hρ htm k1 k2 k3 k4 k5 k6 e3 e4 e5 hre hk hq hql hsc hco hce e1 ht0
        go_wp2_with fail
        refine HTK.out.mono ?_
        rintro en w7 ⟨rfl, hc7, ha7⟩
        have HST7 := Lib.hid (HST.out.chg hc7 ha7 HNE.out (by have := HLT.out; omega) (by have := HLX.out; omega) (by have := HBX.out; omega))
        have HB7 : Hid (B ≤ w7.heap.size) := Lib.hid HST7.out.sz
        have HS1 : Hid (∀ W', Apart (fun b => v.ownBlock = some b) w7 W' → W'.cell? ⟨C, 0, none⟩ = some (.int .i64 n) ∧ W'.cell? ⟨C, 2, none⟩ = some (.int .i64 e) ∧ W'.cell? ⟨C, 3, none⟩ = some (.int .i64 t0)) := Lib.hid fun W' ha => by
          have hne : ¬ v.ownBlock = some C := fun e => by have := own_base5 HST7.out.own C e; have := HLX.out; omega
          have e0 := (ha.block C (heap_lt HST7.out.ch.box) hne).trans HST7.out.ch.box
          refine ⟨?_, ?_, ?_⟩ <;> simp [World.cell?, e0]
        have HS2 : Hid (∀ W', Apart (fun b => v.ownBlock = some b) w7 W' → W'.cell? ⟨X, 3, none⟩ = some v ∧ W'.frozen? ⟨X, 3, none⟩ = false) := Lib.hid fun W' ha => by
          have hne : ¬ v.ownBlock = some X := fun e => by have := own_base5 HST7.out.own X e; have := HLX.out; omega
          have e0 := (ha.block X (heap_lt HST7.out.x) hne).trans HST7.out.x
          refine ⟨?_, ?_⟩ <;> simp [World.cell?, World.frozen?, e0]
        have HSZ : Hid (∀ W' u2, Apart (fun b => v.ownBlock = some b) w7 W' → (W'.setCell ⟨X, 3, none⟩ u2).cell? ⟨C, 0, none⟩ = some (.int .i64 n) ∧ (W'.setCell ⟨X, 3, none⟩ u2).cell? ⟨C, 2, none⟩ = some (.int .i64 e) ∧ (W'.setCell ⟨X, 3, none⟩ u2).cell? ⟨C, 3, none⟩ = some (.int .i64 t0)) := Lib.hid fun W' u2 ha => by
          have hne : ¬ v.ownBlock = some C := fun e => by have := own_base5 HST7.out.own C e; have := HLX.out; omega
          have e0 := (heap_other W' (o := 3) u2 (show C ≠ X by have := HLX.out; omega)).trans ((ha.block C (heap_lt HST7.out.ch.box) hne).trans HST7.out.ch.box)
          refine ⟨?_, ?_, ?_⟩ <;> simp [World.cell?, e0]
        have hk0 : Apart (fun b => v.ownBlock = some b) w7 w7.drew := (Apart.refl _ w7).drewN 1
        clear hc7 ha7
        go_wp2_with fail
        as_aux_lemma =>
          refine wp_region_N (S1 := fun w' => w'.cell? ⟨C, 0, none⟩ = some (.int .i64 n) ∧ w'.cell? ⟨C, 2, none⟩ = some (.int .i64 e) ∧ w'.cell? ⟨C, 3, none⟩ = some (.int .i64 t0)) (S2 := fun w' => w'.cell? ⟨X, 3, none⟩ = some v ∧ w'.frozen? ⟨X, 3, none⟩ = false) (N := fun i => i != 20) (by kernel_rfl) ?_
          change wpAnyN _ _ _ _ _ _ _ 21 (Array.replicate 21 false) _ _
          refine wpAnyN_take false (i := 0) (oi := ⟨some 55, _, _, _, _, _⟩) (v := ?_) rfl (by kernel_rfl) (by kernel_rfl) (by kernel_rfl) (fun _ _ _ h => h) (Or.inl ⟨by kernel_rfl, ?_⟩) ⟨HS1.out _ hk0, fun h => (by cases h)⟩ ?_
          rotate_left
          · (intro w hSw; obtain ⟨hSa, hSb⟩ := hSw; clear hSb; (try dsimp only at hSa); go_simp; try with_reducible rfl)
          (try simp only [Act.put, List.setIfInBounds_toArray, List.set_cons_zero, List.set_cons_succ])
          refine wpAnyN_take true (i := 1) (oi := ⟨some 56, _, _, _, _, _⟩) (v := ?_) rfl (by kernel_rfl) (by kernel_rfl) (by kernel_rfl) (fun _ _ _ h => h) (Or.inl ⟨by kernel_rfl, ?_⟩) ⟨HS1.out _ hk0, fun _ => (HS2.out _ hk0)⟩ ?_
          rotate_left
          · (intro w hSw; obtain ⟨hSa, hSb⟩ := hSw; have hSc := hSb rfl; clear hSb; (try dsimp only at hSa hSc); go_simp; try with_reducible rfl)
          (try simp only [Act.put, List.setIfInBounds_toArray, List.set_cons_zero, List.set_cons_succ])
          refine wpAnyN_take false (i := 2) (oi := ⟨some 57, _, _, _, _, _⟩) (v := ?_) rfl (by kernel_rfl) (by kernel_rfl) (by kernel_rfl) (fun _ _ _ h => h) (Or.inl ⟨by kernel_rfl, ?_⟩) ⟨HS1.out _ hk0, fun h => (by cases h)⟩ ?_
          rotate_left
          · (intro w hSw; obtain ⟨hSa, hSb⟩ := hSw; clear hSb; (try dsimp only at hSa); go_simp; try with_reducible rfl)
          (try simp only [Act.put, List.setIfInBounds_toArray, List.set_cons_zero, List.set_cons_succ])
          refine wpAnyN_take false (i := 3) (oi := ⟨some 58, _, _, _, _, _⟩) (v := ?_) rfl (by kernel_rfl) (by kernel_rfl) (by kernel_rfl) (fun _ _ _ h => h) (Or.inl ⟨by kernel_rfl, ?_⟩) ⟨HS1.out _ hk0, fun h => (by cases h)⟩ ?_
          rotate_left
          · (intro w hSw; obtain ⟨hSa, hSb⟩ := hSw; clear hSb; (try dsimp only at hSa); go_simp; try with_reducible rfl)
          (try simp only [Act.put, List.setIfInBounds_toArray, List.set_cons_zero, List.set_cons_succ])
          refine wpAnyN_take false (i := 4) (oi := ⟨some 59, _, _, _, _, _⟩) (v := ?_) rfl (by kernel_rfl) (by kernel_rfl) (by kernel_rfl) (fun _ _ _ h => h) (Or.inl ⟨by kernel_rfl, ?_⟩) ⟨HS1.out _ hk0, fun h => (by cases h)⟩ ?_
          rotate_left
          · (intro w hSw; obtain ⟨hSa, hSb⟩ := hSw; clear hSb; (try dsimp only at hSa); go_simp; try with_reducible rfl)
          (try simp only [Act.put, List.setIfInBounds_toArray, List.set_cons_zero, List.set_cons_succ])
          refine wpAnyN_take false (i := 5) (oi := ⟨some 60, _, _, _, _, _⟩) (v := ?_) rfl (by kernel_rfl) (by kernel_rfl) (by kernel_rfl) (fun _ _ _ h => h) (Or.inl ⟨by kernel_rfl, ?_⟩) ⟨HS1.out _ hk0, fun h => (by cases h)⟩ ?_
          rotate_left
          · (intro w hSw; obtain ⟨hSa, hSb⟩ := hSw; clear hSb; (try dsimp only at hSa); go_simp; try with_reducible rfl)
          (try simp only [Act.put, List.setIfInBounds_toArray, List.set_cons_zero, List.set_cons_succ])
          refine wpAnyN_take false (i := 6) (oi := ⟨some 61, _, _, _, _, _⟩) (v := ?_) rfl (by kernel_rfl) (by kernel_rfl) (by kernel_rfl) (fun _ _ _ h => h) (Or.inl ⟨by kernel_rfl, ?_⟩) ⟨HS1.out _ hk0, fun h => (by cases h)⟩ ?_
          rotate_left
          · (intro w hSw; obtain ⟨hSa, hSb⟩ := hSw; clear hSb; (try dsimp only at hSa); go_simp; try with_reducible rfl)
          (try simp only [Act.put, List.setIfInBounds_toArray, List.set_cons_zero, List.set_cons_succ])
          refine wpAnyN_take false (i := 7) (oi := ⟨some 62, _, _, _, _, _⟩) (v := ?_) rfl (by kernel_rfl) (by kernel_rfl) (by kernel_rfl) (fun _ _ _ h => h) (Or.inl ⟨by kernel_rfl, ?_⟩) ⟨HS1.out _ hk0, fun h => (by cases h)⟩ ?_
          rotate_left
          · (intro w hSw; obtain ⟨hSa, hSb⟩ := hSw; clear hSb; (try dsimp only at hSa); go_simp; try with_reducible rfl)
          (try simp only [Act.put, List.setIfInBounds_toArray, List.set_cons_zero, List.set_cons_succ])
          refine wpAnyN_take false (i := 8) (oi := ⟨some 63, _, _, _, _, _⟩) (v := ?_) rfl (by kernel_rfl) (by kernel_rfl) (by kernel_rfl) (fun _ _ _ h => h) (Or.inl ⟨by kernel_rfl, ?_⟩) ⟨HS1.out _ hk0, fun h => (by cases h)⟩ ?_
          rotate_left
          · (intro w hSw; obtain ⟨hSa, hSb⟩ := hSw; clear hSb; (try dsimp only at hSa); go_simp; try with_reducible rfl)
          (try simp only [Act.put, List.setIfInBounds_toArray, List.set_cons_zero, List.set_cons_succ])
          refine wpAnyN_take false (i := 9) (oi := ⟨some 64, _, _, _, _, _⟩) (v := ?_) rfl (by kernel_rfl) (by kernel_rfl) (by kernel_rfl) (fun _ _ _ h => h) (Or.inl ⟨by kernel_rfl, ?_⟩) ⟨HS1.out _ hk0, fun h => (by cases h)⟩ ?_
          rotate_left
          · (intro w hSw; obtain ⟨hSa, hSb⟩ := hSw; clear hSb; (try dsimp only at hSa); go_simp; try with_reducible rfl)
          (try simp only [Act.put, List.setIfInBounds_toArray, List.set_cons_zero, List.set_cons_succ])
          refine wpAnyN_take false (i := 10) (oi := ⟨some 65, _, _, _, _, _⟩) (v := ?_) rfl (by kernel_rfl) (by kernel_rfl) (by kernel_rfl) (fun _ _ _ h => h) (Or.inl ⟨by kernel_rfl, ?_⟩) ⟨HS1.out _ hk0, fun h => (by cases h)⟩ ?_
          rotate_left
          · (intro w hSw; obtain ⟨hSa, hSb⟩ := hSw; clear hSb; (try dsimp only at hSa); go_simp; try with_reducible rfl)
          (try simp only [Act.put, List.setIfInBounds_toArray, List.set_cons_zero, List.set_cons_succ])
          refine wpAnyN_take false (i := 11) (oi := ⟨some 66, _, _, _, _, _⟩) (v := ?_) rfl (by kernel_rfl) (by kernel_rfl) (by kernel_rfl) (fun _ _ _ h => h) (Or.inl ⟨by kernel_rfl, ?_⟩) ⟨HS1.out _ hk0, fun h => (by cases h)⟩ ?_
          rotate_left
          · (intro w hSw; obtain ⟨hSa, hSb⟩ := hSw; clear hSb; (try dsimp only at hSa); go_simp; try with_reducible rfl)
          (try simp only [Act.put, List.setIfInBounds_toArray, List.set_cons_zero, List.set_cons_succ])
          refine wpAnyN_take false (i := 12) (oi := ⟨some 67, _, _, _, _, _⟩) (v := ?_) rfl (by kernel_rfl) (by kernel_rfl) (by kernel_rfl) (fun _ _ _ h => h) (Or.inl ⟨by kernel_rfl, ?_⟩) ⟨HS1.out _ hk0, fun h => (by cases h)⟩ ?_
          rotate_left
          · (intro w hSw; obtain ⟨hSa, hSb⟩ := hSw; clear hSb; (try dsimp only at hSa); go_simp; try with_reducible rfl)
          (try simp only [Act.put, List.setIfInBounds_toArray, List.set_cons_zero, List.set_cons_succ])
          refine wpAnyN_take false (i := 13) (oi := ⟨some 68, _, _, _, _, _⟩) (v := ?_) rfl (by kernel_rfl) (by kernel_rfl) (by kernel_rfl) (fun _ _ _ h => h) (Or.inl ⟨by kernel_rfl, ?_⟩) ⟨HS1.out _ hk0, fun h => (by cases h)⟩ ?_
          rotate_left
          · (intro w hSw; obtain ⟨hSa, hSb⟩ := hSw; clear hSb; (try dsimp only at hSa); go_simp; try with_reducible rfl)
          (try simp only [Act.put, List.setIfInBounds_toArray, List.set_cons_zero, List.set_cons_succ])
          refine wpAnyN_take false (i := 14) (oi := ⟨some 69, _, _, _, _, _⟩) (v := ?_) rfl (by kernel_rfl) (by kernel_rfl) (by kernel_rfl) (fun _ _ _ h => h) (Or.inl ⟨by kernel_rfl, ?_⟩) ⟨HS1.out _ hk0, fun h => (by cases h)⟩ ?_
          rotate_left
          · (intro w hSw; obtain ⟨hSa, hSb⟩ := hSw; clear hSb; (try dsimp only at hSa); go_simp; try with_reducible rfl)
          (try simp only [Act.put, List.setIfInBounds_toArray, List.set_cons_zero, List.set_cons_succ])
          refine wpAnyN_step (i := 15) (by kernel_rfl) rfl (by kernel_rfl) ?_
          intro K' hK
          (try simp only [Act.put, List.setIfInBounds_toArray, List.set_cons_zero, List.set_cons_succ])
          go_simp
          go_at_call 135; refine (HRD.out _).mono ?_; rintro en w8 ⟨rfl, hb8⟩
          have hk8 : Below w7.heap.size w7 w8 := (Below.refl w7.heap.size w7).drew.trans hb8
          have ha8 : Apart (fun b => v.ownBlock = some b) w7 w8 := Apart.of_below hk8
          refine hK.out _ _ (HS1.out _ ha8) (fun _ _ => (HS2.out _ ha8)) ?_
          clear hK K'
          (try simp only [Act.put, List.setIfInBounds_toArray, List.set_cons_zero, List.set_cons_succ])
          refine wpAnyN_take false (i := 16) (oi := ⟨some 71, _, _, _, _, _⟩) (v := ?_) rfl (by kernel_rfl) (by kernel_rfl) (by kernel_rfl) (fun _ _ _ h => h) (Or.inl ⟨by kernel_rfl, ?_⟩) ⟨HS1.out _ ha8, fun h => (by cases h)⟩ ?_
          rotate_left
          · (intro w hSw; obtain ⟨hSa, hSb⟩ := hSw; clear hSb; (try dsimp only at hSa); go_simp; try with_reducible rfl)
          (try simp only [Act.put, List.setIfInBounds_toArray, List.set_cons_zero, List.set_cons_succ])
          refine wpAnyN_step (i := 17) (by kernel_rfl) rfl (by kernel_rfl) ?_
          intro K' hK
          (try simp only [Act.put, List.setIfInBounds_toArray, List.set_cons_zero, List.set_cons_succ])
          go_simp
          obtain ⟨w9, Z, hw9, hZ, hZl, hb9, hz9⟩ := box_any w8 #[.int .i64 e, .int .u64 tm] 84
          rw [hw9, hZ]
          have hk9 := hk8.trans (hb9.mono hk8.size)
          have ha9 : Apart (fun b => v.ownBlock = some b) w7 w9 := Apart.of_below hk9
          refine hK.out _ _ (HS1.out _ ha9) (fun _ _ => (HS2.out _ ha9)) ?_
          clear hK K'
          (try simp only [Act.put, List.setIfInBounds_toArray, List.set_cons_zero, List.set_cons_succ])
          refine wpAnyN_step (i := 18) (by kernel_rfl) rfl (by kernel_rfl) ?_
          intro K' hK
          (try simp only [Act.put, List.setIfInBounds_toArray, List.set_cons_zero, List.set_cons_succ])
          have hown9 := own_below5 HST7.out.own hk9
          have hB9 : B ≤ w9.heap.size := Nat.le_trans HB7.out hk9.size
          refine wp_append_own _ _ 46 rfl B 84 i0 (.agg #[.int .i64 0, .int .u64 0]) 2 16 Tryz.underlying46 hi0 hz0 hz1 hz2 rfl (by decide) v q.length (pcsCells q) (by simp [Act.eval, Act.put]) hown9 ⟨Z, 0, none⟩ 1 1 [.int .i64 e, .int .u64 tm] (by simp [Act.eval, Act.put]) rfl (World.news_of_block hz9) (by intro y hy; simp at hy; rcases hy with rfl | rfl <;> rfl) (by have := HQL.out; unfold maxLen; omega) (by have := HQL.out; omega) hB9 ?_
          intro v2 wA hownA hgrow _ hat
          obtain ⟨A2, d2, rfl⟩ := own_form hownA
          have haA : Apart (fun b => v.ownBlock = some b) w7 wA := ha9.trans (F' := fun b => v.ownBlock = some b) ⟨hgrow.os, hgrow.tape, hgrow.output, hgrow.size, fun b hb hne => hgrow.block b hb fun e => hne e.symm⟩ fun _ _ h => h
          refine hK.out _ _ (HS1.out _ haA) (fun _ _ => (HS2.out _ haA)) ?_
          clear hK K'
          (try simp only [Act.put, List.setIfInBounds_toArray, List.set_cons_zero, List.set_cons_succ])
          obtain ⟨x3, x5⟩ := HS2.out _ haA
          refine wpAnyN_take false (i := 19) (oi := ⟨some 74, _, _, _, _, _⟩) (v := ?_) rfl (by kernel_rfl) (by kernel_rfl) (by kernel_rfl) (fun _ _ _ h => h) (Or.inl ⟨by kernel_rfl, ?_⟩) ⟨HS1.out _ haA, fun h => (by cases h)⟩ ?_
          rotate_left
          · (intro w hSw; obtain ⟨hSa, hSb⟩ := hSw; clear hSb; (try dsimp only at hSa); go_simp; try with_reducible rfl)
          (try simp only [Act.put, List.setIfInBounds_toArray, List.set_cons_zero, List.set_cons_succ])
          refine wpAnyN_step (i := 20) (by kernel_rfl) rfl (by kernel_rfl) ?_
          intro K' hK
          (try simp only [Act.put, List.setIfInBounds_toArray, List.set_cons_zero, List.set_cons_succ])
          go_simp
          refine hK.out _ _ (HSZ.out _ _ haA) (fun h => by cases h) ?_
          clear hK K'
          (try simp only [Act.put, List.setIfInBounds_toArray, List.set_cons_zero, List.set_cons_succ])
          have HSTN := Lib.hid (HST7.out.more (y := ⟨(e : Int), tm⟩) haA hownA HLX.out)
          refine wpAnyN_done (by kernel_rfl) ?_
          clear x3 x5 hk0 hk8 hk9 ha8 ha9 haA hownA hgrow hat hb9 hz9 hw9 hZ hZl hown9 hB9 hb8
          generalize wA.setCell ⟨X, 3, none⟩ (.slice A2 (q.length + 1) d2) = wB at *
          obtain ⟨d, hd1⟩ : ∃ d, (t0 + τ) % n = d := ⟨_, rfl⟩
          have hdn : d < n := by rw [← hd1]; exact Nat.mod_lt _ (by omega)
          have hnz : ((n : Int) != 0) = true := by simp; omega
          have hmod : ((t0 : Int) + (τ : Int)).tmod (n : Int) = (d : Int) := by
            rw [Int.tmod_eq_emod_of_nonneg (by omega), ← hd1]
            simp
          have hwr : IntKind.i64.wrap (d : Int) = (d : Int) := IntWalk.i64_in _ (by omega)
          have HD := Lib.hid hd1
          obtain ⟨a0, a1, a2, a3, z2, z3⟩ := HSTN.out.ch.heads
          clear hd1
          go_wp2_with fail
          go_region
          have HSTD : Hid (PcSt C R n N4 X B u s W (wB.setCell ⟨C, 3, none⟩ (.int .i64 (d : Int))).drew (.slice A2 (q.length + 1) d2) (q ++ [⟨(e : Int), tm⟩]) (fun i => (leftC r s (e + 1) i : Int)) e d) := Lib.hid (HSTN.out.chg (HSTN.out.ch.setTick d).drew (((Apart.refl (fun b => b = C ∨ b = R) wB).set (p := ⟨C, 3, none⟩) (.inl (.inl rfl)) _).drewN 1) HNE.out (by have := HLT.out; omega) (by have := HLX.out; omega) (by have := HBX.out; omega))
          clear a0 a1 a2 a3 z2 z3
          go_wp2_with fail
          go_roundg (16 - (e + 1))
          case measure => have := HG.out; have := HCE.out; omega
          case rel =>
            refine ⟨e + 1, e, .slice A2 (q.length + 1) d2, by omega, rfl, ?_, ?_, HZN.out⟩
            · rw [HRN.out]; go_num
            · rw [HNX.out, ← HTN.out, HD.out]
              exact HSTD.out
      · have hks : k = s := by have := lo_le r s c; omega
        have hsc : s ≤ sumTo r c := by unfold loN at hk; omega
        have htz : ∀ i, c ≤ i → takeN r s i = 0 := fun i hi => by
          have := sumTo_mono r hi
          unfold takeN
          omega
        have ex : placeX n a r u s = ⟨u, s, 0, pcsC n a r s c⟩ := by
          unfold placeX
          rw [HX.out, if_neg hsx, pcsA_eq, pcsC_upto hc fun i h1 _ => htz i h1]
        have et : placeT n a r s = (a + loN r s c) % n := by
          unfold placeT
          rw [HX.out, if_neg hsx, hk, hks]
        have er : ∀ i, placeR r s i = leftC r s c i := fun i => by
          unfold placeR leftC
          rw [HX.out, if_neg hsx]
          by_cases h : i < c
          · rw [if_pos h]
          · rw [if_neg h, htz i (by omega), Nat.sub_zero]
        obtain ⟨A2, d2, hv⟩ := own_form hst.own
        obtain ⟨q, hq⟩ : ∃ q, pcsC n a r s c = q := ⟨_, rfl⟩
        rw [hq] at ex hst hv
        obtain ⟨m, hm⟩ : ∃ m, q.length = m := ⟨_, rfl⟩
        rw [hm] at hv
        subst hv
        have hlt4 := HLT.out
        have hbx := HBX.out
        have hcl := HCL.out
        have HEND : Hid (RetPlace C R n a r u s W (.returned (.agg #[.int .i64 u, .int .i64 s, .int .i64 0, .slice A2 m d2])) (wr.setRow N4 #[.int .i64 u, .int .i64 s, .int .i64 0, .slice A2 m d2])) := Lib.hid (by
          refine ⟨.slice A2 m d2, co, by rw [ex]; rfl, ?_, ?_, fun i hi => by rw [er]; exact hco i hi, ?_⟩
          · rw [ex]
            exact (pcs_of_own (own_keep hst.own fun b hb => setRow_other _ _ _ _ (by have := own_base5 hst.own b hb; omega))).mono fun b _ hb => by omega
          · rw [et]
            refine ChAt.congr (g := fun i => (leftC r s c i : Int)) ⟨(setRow_other _ _ _ _ (by omega)).trans hst.ch.box, (setRow_other _ _ _ _ (by omega)).trans hst.ch.row, hst.ch.ne⟩ fun i _ => ?_
            rw [er]
          · exact hst.ap.trans (F' := fun b => b = N4) ⟨rfl, rfl, rfl, by simp, fun k _ hne => setRow_other _ _ _ _ hne⟩ fun y hy e => by omega)
        have hz : s - k = 0 := by omega
        have HN4W := Lib.hid hst.n4
        obtain ⟨x0, x1, x2, x3⟩ := four_heads hst.x
        rw [hk, hz]
        clear hst ex et er hq hm htz hco hsc hk
        go_wp2_with (refine wpList_store_row rfl _ _ _ rfl N4 #[.int .i64 u, .int .i64 s, .int .i64 0, .slice A2 m d2] rfl rfl 48 _ HN4W.out (Tryz.sizePl _ _ _ _) rfl (one4 _ _ _ _ _ _) ?_)
        refine bodyPost_ret (v := .agg #[.int .i64 u, .int .i64 s, .int .i64 0, .slice A2 m d2]) (results_cell_row rfl _ _ N4 _ _ _ _ rfl (setRow_heap _ _ _ _ _ _ HN4W.out) Tryz.underlying48 rfl (Tryz.sizePl _ _ _ _)) rfl ?_
        exact HEND.out
end Go.Proofs.YtpfpojehcjmfnaaGreat
