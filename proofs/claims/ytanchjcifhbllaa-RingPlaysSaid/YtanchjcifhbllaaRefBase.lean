/-
  The document's ring: its members in a row; where an id stands; rounding up; New.
  Conditions: the numbers are small.
-/
import Derived.Test.YtanchjcifhbllaaActs
set_option linter.unusedVariables false
namespace Go.Proofs.Ytanchjcifhbllaa
open Go.RowKit

theorem Try.infoRm : (Try.prog.info? 71).map (fun i => (i.zero, i.size, i.bytes)) = some (some (.agg #[.int .i64 0, .int .i64 0, .int .i64 0, .bool false]), 4, 32) := by kernel_rfl
theorem Try.sizeRr (a b c : Value) : (Try.prog.info? 30).map (·.size) = some (#[a, b, c] : Array Value).size := by
  show _ = some 3
  kernel_rfl
def rmCells (m : Mb) : List Value := [.int .i64 m.id, .int .i64 m.w, .int .i64 m.n, .bool m.on]
def rmA (m : Mb) : Value := .agg #[.int .i64 m.id, .int .i64 m.w, .int .i64 m.n, .bool m.on]
def rowR (l : List Mb) : List Value := l.flatMap rmCells
theorem rowR_cons (m : Mb) (l : List Mb) : rowR (m :: l) = .int .i64 m.id :: .int .i64 m.w :: .int .i64 m.n :: .bool m.on :: rowR l := by simp [rowR, rmCells]
theorem rowR_snoc (l : List Mb) (m : Mb) : rowR (l ++ [m]) = rowR l ++ rmCells m := by simp [rowR]
theorem rowR_length : ∀ (l : List Mb), (rowR l).length = l.length * 4
  | [] => rfl
  | m :: l => by rw [rowR_cons]; simp [rowR_length l]; omega
theorem rowR_get : ∀ (l : List Mb) (j : Nat) (m : Mb), l[j]? = some m → (rowR l)[j * 4]? = some (.int .i64 m.id) ∧ (rowR l)[j * 4 + 1]? = some (.int .i64 m.w) ∧ (rowR l)[j * 4 + 2]? = some (.int .i64 m.n) ∧ (rowR l)[j * 4 + 3]? = some (.bool m.on)
  | [], j, m, h => by simp at h
  | x :: l, 0, m, h => by
    simp at h
    subst h
    exact ⟨rfl, rfl, rfl, rfl⟩
  | x :: l, j + 1, m, h => by
    have ih := rowR_get l j m (by simpa using h)
    rw [rowR_cons, show (j + 1) * 4 = j * 4 + 1 + 1 + 1 + 1 by omega]
    simpa using ih
theorem rm_one (m : Mb) : ∀ u ∈ rmCells m, u.oneCell' = true := by
  intro u hu
  simp [rmCells] at hu
  rcases hu with rfl | rfl | rfl | rfl <;> rfl
/-- The document's ring as a value: its row and the floor that it keeps. -/
def RmAt (W : World) (b o : Nat) (m : Mb) : Prop :=
  W.cell? ⟨b, o, none⟩ = some (.int .i64 m.id) ∧ W.cell? ⟨b, o + 1, none⟩ = some (.int .i64 m.w) ∧ W.cell? ⟨b, o + 2, none⟩ = some (.int .i64 m.n) ∧ W.cell? ⟨b, o + 3, none⟩ = some (.bool m.on)
abbrev RowR (W : World) (v : Value) (l : List Mb) : Prop := W.ownsRow 0 71 4 v l.length (rowR l)
theorem RowR.lies {W : World} {v : Value} {l : List Mb} (h : RowR W v l) : ∃ A c, v = .slice A l.length c ∧ ∀ j m, l[j]? = some m → ∃ g, A = some ⟨g, 0, none⟩ ∧ g < W.heap.size ∧ RmAt W g (j * 4) m := by
  obtain ⟨h1, h2⟩ := h
  rcases h2 with ⟨rfl, h0⟩ | ⟨g, cap, cur, rfl, hg, hh, hn, hc, hs, ht⟩
  · exact ⟨none, 0, by rw [h0], fun j m hj => by have := (List.getElem?_eq_some_iff.1 hj).1; omega⟩
  · refine ⟨_, _, rfl, fun j m hj => ⟨g, rfl, heap_lt hh, ?_⟩⟩
    have hjl : j < l.length := (List.getElem?_eq_some_iff.1 hj).1
    obtain ⟨g0, g1, g2, g3⟩ := rowR_get l j m hj
    have key : ∀ (i : Nat) (u : Value), i < l.length * 4 → (rowR l)[i]? = some u → W.cell? ⟨g, i, none⟩ = some u := by
      intro i u hi hu
      rw [cell_of_row W g i _ _ (0, 0) hh, ← hu, ← ht, List.getElem?_take, if_pos hi]
      simp
    exact ⟨key _ _ (by omega) g0, key _ _ (by omega) g1, key _ _ (by omega) g2, key _ _ (by omega) g3⟩
theorem RowR.below {W W' : World} {v : Value} {l : List Mb} (h : RowR W v l) (hb : Below W.heap.size W W') : RowR W' v l := own_below h hb
theorem RmAt.keep {W W' : World} {b o : Nat} {m : Mb} (h : RmAt W b o m) (hk : W'.heap[b]? = W.heap[b]?) : RmAt W' b o m :=
  have e := fun o => cell_same (W := W) (W' := W') hk o
  ⟨(e _).trans h.1, (e _).trans h.2.1, (e _).trans h.2.2.1, (e _).trans h.2.2.2⟩
/-- Small numbers: what the document's ring has. -/
structure Small (s : Rg) : Prop where
  len : s.l.length ≤ 32
  mem : ∀ m ∈ s.l, 0 < m.w ∧ m.w ≤ 1000 ∧ m.n ≤ 10000000
  den : 0 < s.den ∧ s.den ≤ 1000
  num : s.num ≤ 10000000
theorem Fit.small {C : Nat} {s : Rg} (h : Fit C s) (hC : C ≤ 10000) : Small s := by
  refine ⟨h.len, fun m hm => ?_, ⟨h.den0, h.den1⟩, ?_⟩
  · obtain ⟨_, _, a, b, c⟩ := h.mem m hm
    exact ⟨a, b, Nat.le_trans c (Nat.mul_le_mul hC b)⟩
  · exact Nat.le_trans h.num (Nat.mul_le_mul hC h.den1)
theorem Small.floor {s : Rg} (h : Small s) : 0 < (floorN s).2 ∧ (floorN s).2 ≤ 1000 ∧ (floorN s).1 ≤ 10000000 := by
  unfold floorN
  cases hb : best s.l with
  | none => exact ⟨h.den.1, h.den.2, h.num⟩
  | some x =>
    obtain ⟨h1, _, _⟩ := best_some (fun m hm => (h.mem m hm).1) hb
    exact h.mem x.2 (List.mem_of_getElem? h1)
def refV (v : Value) (s : Rg) : Value := .agg #[v, .int .i64 s.num, .int .i64 s.den]
theorem three_heads {w : World} {N : Nat} {a b c : Value} {T : TypeId} (h : w.heap[N]? = some (.cells #[a, b, c] T (0, 0))) :
    w.cell? ⟨N, 0, none⟩ = some a ∧ w.cell? ⟨N, 1, none⟩ = some b ∧ w.cell? ⟨N, 2, none⟩ = some c ∧ w.frozen? ⟨N, 0, none⟩ = false ∧ w.frozen? ⟨N, 1, none⟩ = false ∧ w.frozen? ⟨N, 2, none⟩ = false := by
  refine ⟨?_, ?_, ?_, ?_, ?_, ?_⟩ <;> simp [World.cell?, World.frozen?, h]

theorem up_any (a b : Nat) (h1 : a ≤ 1000000000000) (h2 : 0 < b) (h3 : b ≤ 1000000) (W : World) : Calls Try.prog 61 #[.int .i64 a, .int .i64 b] W (Ret (.int .i64 ((a + b - 1) / b : Nat)) W) := by
  obtain ⟨q, hq⟩ : ∃ q, (a + b - 1) / b = q := ⟨_, rfl⟩
  have hql : q ≤ a + b - 1 := by rw [← hq]; exact Nat.div_le_self _ _
  obtain ⟨s, hs⟩ : ∃ s, a + b - 1 = s := ⟨_, rfl⟩
  have y1 : (a : Int) + (b : Int) - 1 = (s : Int) := by omega
  have y2 : (s : Int) / (b : Int) = (q : Int) := by rw [← hq, ← hs]; exact (Int.natCast_ediv _ b).symm
  have y3 : (s : Int).tdiv (b : Int) = (q : Int) := by rw [← hq, ← hs]; rfl
  have y4 : ((b : Int) == 0) = false := beq_eq_false_iff_ne.2 (by omega)
  have y5 : ((b : Int) != 0) = true := by simp; omega
  have hsl : s ≤ 1000001000000 := by omega
  have hql2 : q ≤ 1000001000000 := by omega
  rw [hq]
  clear hq hs hql
  go_enter Try.func61, Try.ntmps61
  go_wp2
  go_ret
  exact ⟨rfl, rfl⟩

set_option maxRecDepth 100000 in
set_option maxHeartbeats 1000000 in
theorem refFind_any (W : World) (v : Value) (s : Rg) (id : Int) (h : RowR W v s.l) (hl : s.l.length ≤ 100) : Calls Try.prog 50 #[refV v s, .int .i64 id] W (RetB (.int .i64 (idxO (findK s.l id))) W) := by
  obtain ⟨A, c, rfl, hat⟩ := h.lies
  obtain ⟨n, hn⟩ : ∃ n, s.l.length = n := ⟨_, rfl⟩
  have HN := Lib.hid hn
  have HAT := Lib.hid hat
  rw [hn] at hl ⊢
  obtain ⟨N, hN⟩ : ∃ N, W.heap.size = N := ⟨_, rfl⟩
  obtain ⟨w1, hw1⟩ : ∃ w1, W.alloc (.cells #[.slice A n c, .int .i64 s.num, .int .i64 s.den] 30) = w1 := ⟨_, rfl⟩
  have hb1 : Below W.heap.size W w1 := by rw [← hw1]; exact (Below.refl _ W).alloc (Nat.le_refl _) _
  have HN1 : Hid (w1.heap[N]? = some (.cells #[.slice A n c, .int .i64 s.num, .int .i64 s.den] 30 (0, 0))) := by rw [← hw1]; exact alloc_block W _ hN
  have HB1 := Lib.hid hb1
  obtain ⟨c0, _⟩ := three_heads HN1.out
  unfold refV
  clear h hn hat hb1
  go_enter Try.func50, Try.ntmps50
  go_wp2_with fail
  clear hw1 hN
  go_loopg [5] n (fun gg s5 wr => ∃ k : Nat, k ≤ n ∧ gg = n - k ∧ s5 = .int .i64 k ∧ wr = w1 ∧ ∀ (j : Nat) (t : Mb), j < k → s.l[j]? = some t → ((t.id : Int) == id) = false)
  case atStart => exact ⟨0, Nat.zero_le _, by omega, rfl, rfl, fun j t hj => absurd hj (Nat.not_lt_zero _)⟩
  case round =>
    obtain ⟨k, hk, hg, rfl, rfl, hall⟩ := hrel
    have HG := Lib.hid hg
    have HALL := Lib.hid hall
    clear hg hall
    by_cases hlt : k < n
    · have hltz : (k : Int) < (n : Int) := by omega
      have hk0 : (0 : Int) ≤ (k : Int) := by omega
      obtain ⟨m, hm⟩ := ex_at (xs := s.l) (k := k) (by have := HN.out; omega)
      have HM := Lib.hid hm
      obtain ⟨g, hA, hgl, hr⟩ := HAT.out k m hm
      subst hA
      obtain ⟨a0, _⟩ := hr.keep (HB1.out.block g hgl)
      clear hr hm hgl
      cases hq : ((m.id : Int) == id) with
      | true =>
        have HQ := Lib.hid hq
        go_wp2
        go_ret
        refine ⟨?_, HB1.out⟩
        unfold findK
        rw [idx_some HM.out HQ.out HALL.out]
        rfl
      | false =>
        have HQ := Lib.hid hq
        go_wp2_with fail
        go_roundg (n - (k + 1))
        case measure => have := HG.out; omega
        case rel =>
          refine ⟨k + 1, by omega, rfl, by go_num, rfl, fun j t hj ht => ?_⟩
          by_cases e : j = k
          · subst e
            rw [HM.out] at ht
            rw [← Option.some.inj ht]
            exact HQ.out
          · exact HALL.out j t (by omega) ht
    · have hltz : ¬ (k : Int) < (n : Int) := by omega
      go_wp2
      go_ret
      refine ⟨?_, HB1.out⟩
      unfold findK
      rw [idx_none (fun j t hj ht => HALL.out j t (by have := HN.out; omega) ht)]
      rfl
theorem refNew_any (W : World) : Calls Try.prog 11 #[] W (RetB (refV (.slice none 0 0) (newR 0)) W) := by
  have hb1 := ((Below.refl W.heap.size W).alloc (Nat.le_refl _) (.cells #[.slice none 0 0, .int .i64 0, .int .i64 1] 30))
  have HB1 := Lib.hid hb1
  clear hb1
  go_enter Try.func11, Try.ntmps11
  go_wp2
  go_returns
  exact ⟨rfl, HB1.out⟩
end Go.Proofs.Ytanchjcifhbllaa
