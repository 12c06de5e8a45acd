/-
  The document's ring with a member laid in, or without one.
  Conditions: none beyond the row's.
-/
import Derived.Test.YtanchjcifhbllaaRefLeast
set_option linter.unusedVariables false
namespace Go.Proofs.Ytanchjcifhbllaa
open Go.RowKit

theorem own_empty (w : World) (t : Nat) : (w.alloc (Obj.cells #[] t)).ownsRow w.heap.size t 4 (.slice (some ⟨w.heap.size, 0, none⟩) 0 0) 0 [] :=
  ⟨rfl, .inr ⟨w.heap.size, 0, #[], rfl, Nat.le_refl _, heap_alloc_new w _, Nat.le_refl _, Nat.zero_le _, rfl, rfl⟩⟩
theorem filt_take {p : Mb → Bool} {l : List Mb} {i : Nat} {y : Mb} (h : l[i]? = some y) : (l.take (i + 1)).filter p = (l.take i).filter p ++ (if p y = true then [y] else []) := by
  have h2 : l.take (i + 1) = l.take i ++ [y] := by rw [List.take_add_one, h]; rfl
  rw [h2, List.filter_append]
  congr 1
  cases hp : p y <;> simp [hp]
/-- The cells of a member that was laid into a block of its own. -/
theorem news_rm (W : World) (B : Nat) (hB : W.heap.size = B) (t : Nat) (m : Mb) : ∀ j u, (rmCells m)[j]? = some u → (W.alloc (.cells #[.int .i64 m.id, .int .i64 m.w, .int .i64 m.n, .bool m.on] t)).cell? ((⟨B, 0, none⟩ : Addr).add j) = some u := by
  subst hB
  exact World.news_of_block (heap_alloc_new W _)
/-- What a call answers that makes a ring anew. -/
def RefPost (W : World) (s' : Rg) (e : Ending) (w' : World) : Prop := ∃ v', e = .returned (refV v' s') ∧ RowR w' v' s'.l ∧ Below W.heap.size W w'

set_option maxRecDepth 100000 in
set_option maxHeartbeats 4000000 in
theorem with_any (W : World) (v : Value) (s : Rg) (m : Mb) (h : RowR W v s.l) (hl : s.l.length ≤ 100) : Calls Try.prog 49 #[refV v s, rmA m] W (RefPost W { s with l := withL s.l m }) := by
  obtain ⟨i0, hi, hz0, hz1, hz2⟩ := info_parts Try.infoRm
  obtain ⟨A, c, rfl, hat⟩ := h.lies
  obtain ⟨n, hn⟩ : ∃ n, s.l.length = n := ⟨_, rfl⟩
  have HN := Lib.hid hn
  have HAT := Lib.hid hat
  rw [hn] at hl ⊢
  obtain ⟨N, hN⟩ : ∃ N, W.heap.size = N := ⟨_, rfl⟩
  obtain ⟨w3, hw3⟩ : ∃ w3, ((W.alloc (.cells #[.slice A n c, .int .i64 s.num, .int .i64 s.den] 30)).alloc (.cells #[.int .i64 m.id, .int .i64 m.w, .int .i64 m.n, .bool m.on] 71)).alloc (.cells #[.slice none 0 0, .int .i64 0, .int .i64 0] 30) = w3 := ⟨_, rfl⟩
  have HHW3 := Lib.hid hw3
  have h1 := (Below.refl W.heap.size W).alloc (Nat.le_refl _) (.cells #[.slice A n c, .int .i64 s.num, .int .i64 s.den] 30)
  obtain ⟨wa, hwa⟩ : ∃ wa, W.alloc (.cells #[.slice A n c, .int .i64 s.num, .int .i64 s.den] 30) = wa := ⟨_, rfl⟩
  have hNa : wa.heap.size = N + 1 := by rw [← hwa, ← hN]; simp
  have g0 : wa.heap[N]? = some (.cells #[.slice A n c, .int .i64 s.num, .int .i64 s.den] 30 (0, 0)) := by rw [← hwa]; exact alloc_block W _ hN
  rw [hwa] at hw3 h1
  obtain ⟨wb, hwb⟩ : ∃ wb, wa.alloc (.cells #[.int .i64 m.id, .int .i64 m.w, .int .i64 m.n, .bool m.on] 71) = wb := ⟨_, rfl⟩
  have hba : Below wa.heap.size wa wb := by rw [← hwb]; exact (Below.refl _ wa).alloc (Nat.le_refl _) _
  have hNb : wb.heap.size = N + 1 + 1 := by rw [← hwb]; simp [hNa]
  have g1 : wb.heap[N + 1]? = some (.cells #[.int .i64 m.id, .int .i64 m.w, .int .i64 m.n, .bool m.on] 71 (0, 0)) := by rw [← hwb]; exact alloc_block wa _ hNa
  rw [hwb] at hw3
  have hb3 : Below wb.heap.size wb w3 := by rw [← hw3]; exact (Below.refl _ wb).alloc (Nat.le_refl _) _
  have hN3 : w3.heap.size = N + 3 := by rw [← hw3]; simp [hNb]
  have g2 : w3.heap[N + 1 + 1]? = some (.cells #[.slice none 0 0, .int .i64 0, .int .i64 0] 30 (0, 0)) := by rw [← hw3]; exact alloc_block wb _ hNb
  have HG : Hid (w3.heap[N]? = some (.cells #[.slice A n c, .int .i64 s.num, .int .i64 s.den] 30 (0, 0)) ∧ w3.heap[N + 1]? = some (.cells #[.int .i64 m.id, .int .i64 m.w, .int .i64 m.n, .bool m.on] 71 (0, 0)) ∧ w3.heap[N + 1 + 1]? = some (.cells #[.slice none 0 0, .int .i64 0, .int .i64 0] 30 (0, 0))) :=
    ⟨keep_block (keep_block g0 hba) hb3, keep_block g1 hb3, g2⟩
  have HB3 : Hid (Below W.heap.size W w3) := h1.trans ((hba.trans (hb3.mono hba.size)).mono h1.size)
  have HSZ := Lib.hid hN
  have HN3 := Lib.hid hN3
  have HK : Hid (∀ w', Below w3.heap.size w3 w' → w'.cell? ⟨N, 0, none⟩ = some (.slice A n c) ∧ w'.cell? ⟨N, 1, none⟩ = some (.int .i64 s.num) ∧ w'.cell? ⟨N, 2, none⟩ = some (.int .i64 s.den) ∧ w'.cell? ⟨N + 1, 0, none⟩ = some (.int .i64 m.id) ∧ w'.cell? ⟨N + 1, 1, none⟩ = some (.int .i64 m.w) ∧ w'.cell? ⟨N + 1, 2, none⟩ = some (.int .i64 m.n) ∧ w'.cell? ⟨N + 1, 3, none⟩ = some (.bool m.on)) := fun w' hb => by
    have k0 := keep_block HG.out.1 hb
    have k1 := keep_block HG.out.2.1 hb
    refine ⟨?_, ?_, ?_, ?_, ?_, ?_, ?_⟩ <;> simp [World.cell?, k0, k1]
  have HFIN : Hid (withL s.l m = (s.l.take n).filter (fun x => decide (x.id < m.id)) ++ [m] ++ (s.l.take n).filter (fun x => decide (m.id < x.id))) := by
    show _ = _
    rw [← hn, List.take_length]
    rfl
  have HLEN : Hid (∀ (p : Mb → Bool) (i : Nat), i ≤ n → ((s.l.take i).filter p).length ≤ 100) := fun p i hi => by
    have := List.length_filter_le p (s.l.take i)
    rw [List.length_take] at this
    omega
  unfold refV rmA
  have mixed : Try.prog.follows .mixedOrders = true := by kernel_rfl
  clear h hn hat h1 hwa hNa g0 hwb hba hNb g1 hb3 hN3 g2
  clear hw3 hN
  go_enter Try.func49, Try.ntmps49
  go_upto_region 2 with fail
  rw [HHW3.out, HSZ.out]
  obtain ⟨M, hM⟩ : ∃ M, N + 1 + 1 + 1 = M := ⟨_, rfl⟩
  rw [hM]
  have HMM : Hid (w3.heap.size = M) := by rw [HN3.out, ← hM]; exact rfl
  have HMN : Hid (M = N + 3) := hM.symm
  have HLN6 : Hid (∀ j, j ≤ n → ((s.l.take j).filter (fun x => decide (x.id < m.id))).length ≤ 100) := fun j hj => HLEN.out _ j hj
  have HE0 : Hid ((w3.alloc (.cells #[] 71)).ownsRow M 71 4 (.slice (some ⟨M, 0, none⟩) 0 0) 0 []) := by
    have := own_empty w3 71
    rw [HMM.out] at this
    exact this
  have HBE : Hid (Below w3.heap.size w3 (w3.alloc (.cells #[] 71))) := (Below.refl _ w3).alloc (Nat.le_refl _) _
  clear hM
  go_wp2_with fail

  go_loopg [5, 6] n (fun gg s5 si wr => ∃ i : Nat, i ≤ n ∧ gg = n - i ∧ si = .int .i64 i ∧ Below w3.heap.size w3 wr ∧ wr.ownsRow M 71 4 s5 ((s.l.take i).filter (fun x => decide (x.id < m.id))).length (rowR ((s.l.take i).filter (fun x => decide (x.id < m.id)))))
  case atStart => exact ⟨0, Nat.zero_le _, by omega, rfl, HBE.out, HE0.out⟩
  case round =>
    obtain ⟨i, hin, hg, rfl, hbw, hown⟩ := hrel
    have HG1 := Lib.hid hg
    have HB := Lib.hid hbw
    have HO := Lib.hid hown
    clear hg hbw hown
    obtain ⟨c0, c1, c2, c3, c4, c5, c6⟩ := HK.out wr HB.out
    have hi0 : (0 : Int) ≤ (i : Int) := by omega
    have hfl := HLN6.out i hin
    by_cases hlt : i < n
    · have hltz : (i : Int) < (n : Int) := by omega
      obtain ⟨y, hy⟩ := ex_at (xs := s.l) (k := i) (by have := HN.out; omega)
      obtain ⟨g, hA, hgl, hr⟩ := HAT.out i y hy
      subst hA
      have HGK : Hid (∀ w', Below w3.heap.size w3 w' → RmAt w' g (i * 4) y) := fun w' hb => hr.keep ((hb.block g (by have := HB3.out.size; omega)).trans (HB3.out.block g hgl))
      obtain ⟨a0, a1, a2, a3⟩ := HGK.out wr HB.out
      have HFT := Lib.hid (filt_take (p := fun x => decide (x.id < m.id)) hy)
      clear hr hgl hy
      by_cases hq : y.id < m.id
      · rw [if_pos (by simpa using hq)] at HFT
        have q1 : decide ((y.id : Int) < (m.id : Int)) = true := decide_eq_true (by omega)
        have q2 : (y.id : Int) < (m.id : Int) := by omega
        go_wp2_with fail
        go_quiet (fail)
        have HBQ := Lib.hid (below_drewN HB.out nq)
        have HOQ : Hid ((wr.drewN nq).ownsRow M 71 4 u5 ((s.l.take i).filter (fun x => decide (x.id < m.id))).length (rowR ((s.l.take i).filter (fun x => decide (x.id < m.id))))) := HO.out
        generalize wr.drewN nq = wq at *
        obtain ⟨c0', _⟩ := HK.out wq HBQ.out
        obtain ⟨a0', a1', a2', a3'⟩ := HGK.out wq HBQ.out
        clear a0 a1 a2 a3 c0 c1 c2 c3 c4 c5 c6 hq
        obtain ⟨row, hrow⟩ : ∃ row, (s.l.take i).filter (fun x => decide (x.id < m.id)) = row := ⟨_, rfl⟩
        rw [hrow] at HOQ hfl
        have HROW := Lib.hid hrow
        clear hrow
        have HOA := Lib.hid (own_below HOQ.out ((Below.refl _ wq).alloc (Nat.le_refl _) (Obj.cells #[.int .i64 y.id, .int .i64 y.w, .int .i64 y.n, .bool y.on] 71)))
        have HBA := Lib.hid (HBQ.out.alloc HBQ.out.size (Obj.cells #[.int .i64 y.id, .int .i64 y.w, .int .i64 y.n, .bool y.on] 71))
        have HN2 := Lib.hid (news_rm wq wq.heap.size rfl 71 y)
        have HE2 := Lib.hid (rm_one y)
        have HM2 := Lib.hid (show row.length + 1 ≤ maxLen by unfold maxLen; omega)
        have HY2 := Lib.hid (show (row.length + 1) * 32 ≤ 140737488355328 by omega)
        have HZ2 := Lib.hid (show M ≤ (wq.alloc (Obj.cells #[.int .i64 y.id, .int .i64 y.w, .int .i64 y.n, .bool y.on] 71)).heap.size by have := HBA.out.size; have := HMM.out; omega)
        go_wp2_with (at_builtin; refine wpList_append_own _ rfl _ _ 28 rfl M 71 i0 (.agg #[.int .i64 0, .int .i64 0, .int .i64 0, .bool false]) 4 32 Try.underlying28 hi hz0 hz1 hz2 rfl (by decide) _ _ _ rfl HOA.out ⟨wq.heap.size, 0, none⟩ 1 1 (rmCells y) rfl rfl HN2.out HE2.out HM2.out HY2.out HZ2.out ?_)
        intro v4 w4 hown hgrow _
        have HOw4 := Lib.hid hown
        have HBw4 := Lib.hid (HBA.out.trans (by have hx := below_grown hgrow HZ2.out (own_base HOA.out); rw [HMM.out]; exact hx))
        clear hown hgrow

        go_wp2_with fail
        go_roundg (n - (i + 1))
        case measure => have := HG1.out; omega
        case rel =>
          refine ⟨i + 1, by omega, rfl, by go_num, HBw4.out, ?_⟩
          rw [show (s.l.take (i + 1)).filter (fun x => decide (x.id < m.id)) = row ++ [y] by rw [← HROW.out, HFT.out], rowR_snoc, List.length_append]
          exact HOw4.out
      · rw [if_neg (by simpa using hq)] at HFT
        have q1 : decide ((y.id : Int) < (m.id : Int)) = false := decide_eq_false (by omega)
        have q2 : ¬ (y.id : Int) < (m.id : Int) := by omega
        go_wp2_with fail
        go_quiet (fail)
        go_wp2_with fail
        go_roundg (n - (i + 1))
        case measure => have := HG1.out; omega
        case rel =>
          refine ⟨i + 1, by omega, rfl, by go_num, below_drewN HB.out nq, ?_⟩
          rw [show (s.l.take (i + 1)).filter (fun x => decide (x.id < m.id)) = (s.l.take i).filter (fun x => decide (x.id < m.id)) by rw [HFT.out]; simp]
          exact HO.out
    · have hltz : ¬ (i : Int) < (n : Int) := by omega
      have hine : n = i := by omega
      subst hine
      obtain ⟨row1, hrow1⟩ : ∃ row, (s.l.take n).filter (fun x => decide (x.id < m.id)) = row := ⟨_, rfl⟩
      rw [hrow1] at HO hfl
      have HROW1 := Lib.hid hrow1
      clear hrow1
      have HOA := Lib.hid (own_below HO.out ((Below.refl _ wr).alloc (Nat.le_refl _) (Obj.cells #[.int .i64 m.id, .int .i64 m.w, .int .i64 m.n, .bool m.on] 71)))
      have HBA := Lib.hid (HB.out.alloc HB.out.size (Obj.cells #[.int .i64 m.id, .int .i64 m.w, .int .i64 m.n, .bool m.on] 71))
      have HN2 := Lib.hid (news_rm wr wr.heap.size rfl 71 m)
      have HE2 := Lib.hid (rm_one m)
      have HM2 := Lib.hid (show row1.length + 1 ≤ maxLen by unfold maxLen; omega)
      have HY2 := Lib.hid (show (row1.length + 1) * 32 ≤ 140737488355328 by omega)
      have HZ2 := Lib.hid (show M ≤ (wr.alloc (Obj.cells #[.int .i64 m.id, .int .i64 m.w, .int .i64 m.n, .bool m.on] 71)).heap.size by have := HBA.out.size; have := HMM.out; omega)
      go_wp2_with (at_builtin; refine wpList_append_own _ rfl _ _ 28 rfl M 71 i0 (.agg #[.int .i64 0, .int .i64 0, .int .i64 0, .bool false]) 4 32 Try.underlying28 hi hz0 hz1 hz2 rfl (by decide) _ _ _ rfl HOA.out ⟨wr.heap.size, 0, none⟩ 1 1 (rmCells m) rfl rfl HN2.out HE2.out HM2.out HY2.out HZ2.out ?_)
      intro v5 w5 hown hgrow _
      have HOw5 := Lib.hid hown
      have HBw5 := Lib.hid (HBA.out.trans (by have hx := below_grown hgrow HZ2.out (own_base HOA.out); rw [HMM.out]; exact hx))
      clear hown hgrow

      obtain ⟨base1, hb1⟩ : ∃ base1, row1 ++ [m] = base1 := ⟨_, rfl⟩
      have HOB : Hid (w5.ownsRow M 71 4 v5 base1.length (rowR base1)) := by
        rw [← hb1, rowR_snoc, List.length_append]
        exact HOw5.out
      have HBS : Hid ((s.l.take n).filter (fun x => decide (x.id < m.id)) ++ [m] = base1) := by rw [HROW1.out, hb1]; exact rfl
      have HLN7 : Hid (∀ j, j ≤ n → (base1 ++ (s.l.take j).filter (fun x => decide (m.id < x.id))).length ≤ 300) := fun j hj => by
        have h1 := HLEN.out (fun x => decide (m.id < x.id)) j hj
        rw [List.length_append, ← hb1, List.length_append]
        simp only [List.length_cons, List.length_nil]
        omega
      clear hb1 c0 c1 c2 c3 c4 c5 c6 hfl
      go_wp2_with fail

      go_loopg [5, 7] n (fun gg s5 si wr => ∃ i : Nat, i ≤ n ∧ gg = n - i ∧ si = .int .i64 i ∧ Below w3.heap.size w3 wr ∧ wr.ownsRow M 71 4 s5 (base1 ++ (s.l.take i).filter (fun x => decide (m.id < x.id))).length (rowR (base1 ++ (s.l.take i).filter (fun x => decide (m.id < x.id)))))
      case atStart => exact ⟨0, Nat.zero_le _, by omega, rfl, HBw5.out, (by rw [List.take_zero]; simpa using HOB.out)⟩
      case round =>
        obtain ⟨i, hin, hg, rfl, hbw, hown⟩ := hrel
        have HG1 := Lib.hid hg
        have HB := Lib.hid hbw
        have HO := Lib.hid hown
        clear hg hbw hown
        obtain ⟨c0, c1, c2, c3, c4, c5, c6⟩ := HK.out wr HB.out
        have hi0 : (0 : Int) ≤ (i : Int) := by omega
        have hfl := HLN7.out i hin
        by_cases hlt : i < n
        · have hltz : (i : Int) < (n : Int) := by omega
          obtain ⟨y, hy⟩ := ex_at (xs := s.l) (k := i) (by have := HN.out; omega)
          obtain ⟨g, hA, hgl, hr⟩ := HAT.out i y hy
          subst hA
          have HGK : Hid (∀ w', Below w3.heap.size w3 w' → RmAt w' g (i * 4) y) := fun w' hb => hr.keep ((hb.block g (by have := HB3.out.size; omega)).trans (HB3.out.block g hgl))
          obtain ⟨a0, a1, a2, a3⟩ := HGK.out wr HB.out
          have HFT := Lib.hid (filt_take (p := fun x => decide (m.id < x.id)) hy)
          clear hr hgl hy
          by_cases hq : m.id < y.id
          · rw [if_pos (by simpa using hq)] at HFT
            have q1 : decide ((m.id : Int) < (y.id : Int)) = true := decide_eq_true (by omega)
            have q2 : (m.id : Int) < (y.id : Int) := by omega
            go_wp2_with fail
            go_quiet (fail)
            have HBQ := Lib.hid (below_drewN HB.out nq)
            have HOQ : Hid ((wr.drewN nq).ownsRow M 71 4 u5 (base1 ++ (s.l.take i).filter (fun x => decide (m.id < x.id))).length (rowR (base1 ++ (s.l.take i).filter (fun x => decide (m.id < x.id))))) := HO.out
            generalize wr.drewN nq = wq at *
            obtain ⟨c0', _⟩ := HK.out wq HBQ.out
            obtain ⟨a0', a1', a2', a3'⟩ := HGK.out wq HBQ.out
            clear a0 a1 a2 a3 c0 c1 c2 c3 c4 c5 c6 hq
            obtain ⟨row, hrow⟩ : ∃ row, base1 ++ (s.l.take i).filter (fun x => decide (m.id < x.id)) = row := ⟨_, rfl⟩
            rw [hrow] at HOQ hfl
            have HROW := Lib.hid hrow
            clear hrow
            have HOA := Lib.hid (own_below HOQ.out ((Below.refl _ wq).alloc (Nat.le_refl _) (Obj.cells #[.int .i64 y.id, .int .i64 y.w, .int .i64 y.n, .bool y.on] 71)))
            have HBA := Lib.hid (HBQ.out.alloc HBQ.out.size (Obj.cells #[.int .i64 y.id, .int .i64 y.w, .int .i64 y.n, .bool y.on] 71))
            have HN2 := Lib.hid (news_rm wq wq.heap.size rfl 71 y)
            have HE2 := Lib.hid (rm_one y)
            have HM2 := Lib.hid (show row.length + 1 ≤ maxLen by unfold maxLen; omega)
            have HY2 := Lib.hid (show (row.length + 1) * 32 ≤ 140737488355328 by omega)
            have HZ2 := Lib.hid (show M ≤ (wq.alloc (Obj.cells #[.int .i64 y.id, .int .i64 y.w, .int .i64 y.n, .bool y.on] 71)).heap.size by have := HBA.out.size; have := HMM.out; omega)
            go_wp2_with (at_builtin; refine wpList_append_own _ rfl _ _ 28 rfl M 71 i0 (.agg #[.int .i64 0, .int .i64 0, .int .i64 0, .bool false]) 4 32 Try.underlying28 hi hz0 hz1 hz2 rfl (by decide) _ _ _ rfl HOA.out ⟨wq.heap.size, 0, none⟩ 1 1 (rmCells y) rfl rfl HN2.out HE2.out HM2.out HY2.out HZ2.out ?_)
            intro v4 w4 hown hgrow _
            have HOw4 := Lib.hid hown
            have HBw4 := Lib.hid (HBA.out.trans (by have hx := below_grown hgrow HZ2.out (own_base HOA.out); rw [HMM.out]; exact hx))
            clear hown hgrow

            go_wp2_with fail
            go_roundg (n - (i + 1))
            case measure => have := HG1.out; omega
            case rel =>
              refine ⟨i + 1, by omega, rfl, by go_num, HBw4.out, ?_⟩
              rw [show base1 ++ (s.l.take (i + 1)).filter (fun x => decide (m.id < x.id)) = row ++ [y] by rw [← HROW.out, HFT.out]; simp, rowR_snoc, List.length_append]
              exact HOw4.out
          · rw [if_neg (by simpa using hq)] at HFT
            have q1 : decide ((m.id : Int) < (y.id : Int)) = false := decide_eq_false (by omega)
            have q2 : ¬ (m.id : Int) < (y.id : Int) := by omega
            go_wp2_with fail
            go_quiet (fail)
            go_wp2_with fail
            go_roundg (n - (i + 1))
            case measure => have := HG1.out; omega
            case rel =>
              refine ⟨i + 1, by omega, rfl, by go_num, below_drewN HB.out nq, ?_⟩
              rw [show base1 ++ (s.l.take (i + 1)).filter (fun x => decide (m.id < x.id)) = base1 ++ (s.l.take i).filter (fun x => decide (m.id < x.id)) by rw [HFT.out]; simp]
              exact HO.out
        · have hltz : ¬ (i : Int) < (n : Int) := by omega
          have hine : n = i := by omega
          subst hine
          obtain ⟨A', c', rfl⟩ := own_form HO.out
          have HLAST : Hid (RefPost W { s with l := withL s.l m } (.returned (refV (.slice A' (base1 ++ (s.l.take n).filter (fun x => decide (m.id < x.id))).length c') { s with l := withL s.l m })) ((((wr.setCell ⟨N, 0, none⟩ (.slice A' (base1 ++ (s.l.take n).filter (fun x => decide (m.id < x.id))).length c')).setCell ⟨N + 1 + 1, 0, none⟩ (.slice A' (base1 ++ (s.l.take n).filter (fun x => decide (m.id < x.id))).length c')).setCell ⟨N + 1 + 1, 1, none⟩ (.int .i64 s.num)).setCell ⟨N + 1 + 1, 2, none⟩ (.int .i64 s.den))) := by
            have hfin := HFIN.out
            rw [HBS.out] at hfin
            refine ⟨_, rfl, ?_, ?_⟩
            · show World.ownsRow _ _ _ _ _ (withL s.l m).length (rowR (withL s.l m))
              rw [hfin]
              refine own_keep (own_mono HO.out (Nat.zero_le _)) fun k hk => ?_
              have hkb := own_base HO.out k hk
              have hMN := HMN.out
              have e : ∀ (w : World) (p : Addr) (u : Value), p.block < M → (w.setCell p u).heap[k]? = w.heap[k]? := fun w p u hp => Below.heap_setCell _ _ _ _ (by omega)
              rw [e _ _ _ (by show N + 1 + 1 < M; omega), e _ _ _ (by show N + 1 + 1 < M; omega), e _ _ _ (by show N + 1 + 1 < M; omega), e _ _ _ (by show N < M; omega)]
            · have hz := HSZ.out
              exact (((HB3.out.trans (HB.out.mono HB3.out.size)).setCell (p := ⟨N, 0, none⟩) (by show _ ≤ N; omega) _).setCell (p := ⟨N + 1 + 1, 0, none⟩) (by show _ ≤ N + 1 + 1; omega) _).setCell (p := ⟨N + 1 + 1, 1, none⟩) (by show _ ≤ N + 1 + 1; omega) _ |>.setCell (p := ⟨N + 1 + 1, 2, none⟩) (by show _ ≤ N + 1 + 1; omega) _
          have k0 := keep_block HG.out.1 HB.out
          have k2 := keep_block HG.out.2.2 HB.out
          have HRES : Hid (((((wr.setCell ⟨N, 0, none⟩ (.slice A' (base1 ++ (s.l.take n).filter (fun x => decide (m.id < x.id))).length c')).setCell ⟨N + 1 + 1, 0, none⟩ (.slice A' (base1 ++ (s.l.take n).filter (fun x => decide (m.id < x.id))).length c')).setCell ⟨N + 1 + 1, 1, none⟩ (.int .i64 s.num)).setCell ⟨N + 1 + 1, 2, none⟩ (.int .i64 s.den)).heap[N + 1 + 1]? = some (.cells #[.slice A' (base1 ++ (s.l.take n).filter (fun x => decide (m.id < x.id))).length c', .int .i64 s.num, .int .i64 s.den] 30 (0, 0))) := by
            have k3 := (Below.heap_setCell wr ⟨N, 0, none⟩ (.slice A' (base1 ++ (s.l.take n).filter (fun x => decide (m.id < x.id))).length c') (N + 1 + 1) (show N + 1 + 1 ≠ N by omega)).trans k2
            exact heap_setCell_mem _ _ _ _ _ _ _ (heap_setCell_mem _ _ _ _ _ _ _ (heap_setCell_mem _ _ _ _ _ _ _ k3))
          obtain ⟨d0, d1, d2, d3, _⟩ := three_heads k0
          obtain ⟨e0, e1, e2, e3, e4, e5⟩ := three_heads k2
          generalize (base1 ++ (s.l.take n).filter (fun x => decide (m.id < x.id))).length = len2 at *
          clear k0 k2 hfl
          go_wp2_with fail
          refine bodyPost_ret (v := refV (.slice A' len2 c') s) (results_cell_row rfl _ _ (N + 1 + 1) _ _ _ _ rfl HRES.out Try.underlying30 rfl (Try.sizeRr _ _ _)) rfl ?_
          exact HLAST.out
end Go.Proofs.Ytanchjcifhbllaa
