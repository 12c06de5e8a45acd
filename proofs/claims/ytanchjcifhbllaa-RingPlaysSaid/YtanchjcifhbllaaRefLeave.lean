/-
  The document's Leave.
  Conditions: the numbers are small.
-/
import Derived.Test.YtanchjcifhbllaaRefBlock
set_option linter.unusedVariables false
set_option linter.unusedSimpArgs false
namespace Go.Proofs.Ytanchjcifhbllaa
open Go.RowKit

theorem Box.setv {W w : World} {N : Nat} {v v' : Value} {a b : Nat} {l : List Mb} (h : Box W w N v a b) (hr : RowR w v' l) : Box W (w.setCell ⟨N, 0, none⟩ v') N v' a b := by
  have hn := h.n
  exact ⟨heap_setCell_mem _ _ _ _ _ _ _ h.ring, (Below.heap_setCell _ _ _ _ (show N + 1 ≠ N by omega)).trans h.res, h.bel.setCell (p := ⟨N, 0, none⟩) (by show _ ≤ N; omega) _, hn⟩
theorem Box.setv_row {W w : World} {N : Nat} {v v' : Value} {a b : Nat} {l : List Mb} (h : Box W w N v a b) (hr : RowR w v' l) : RowR (w.setCell ⟨N, 0, none⟩ v') v' l :=
  own_keep hr fun k hk => Below.heap_setCell _ _ _ _ (show k ≠ N from fun e => row_ne hr h.ring (by rw [← e]; exact hk))

set_option maxRecDepth 100000 in
set_option maxHeartbeats 4000000 in
theorem refLeave_any (W : World) (v : Value) (s : Rg) (id : Int) (h : RowR W v s.l) (hs : Small s) (hsrt : Sorted s.l) : Calls Try.prog 44 #[refV v s, .int .i64 id] W (RefPostE W (leaveA s id).2 (leaveA s id).1) := by
  have hlen := hs.len
  obtain ⟨A, c, rfl, hat⟩ := h.lies
  obtain ⟨n, hn⟩ : ∃ n, s.l.length = n := ⟨_, rfl⟩
  have HN := Lib.hid hn
  have HS := Lib.hid hs
  have HAT := Lib.hid hat
  have HROW := Lib.hid (fun (w' : World) (hb : Below W.heap.size W w') => h.below hb)
  rw [hn] at hlen h HROW ⊢
  obtain ⟨N, hN⟩ : ∃ N, W.heap.size = N := ⟨_, rfl⟩
  obtain ⟨w2, hw2⟩ : ∃ w2, (W.alloc (.cells #[.slice A n c, .int .i64 s.num, .int .i64 s.den] 30)).alloc (.cells #[.slice none 0 0, .int .i64 0, .int .i64 0] 30) = w2 := ⟨_, rfl⟩
  have HX : Hid (Box W w2 N (.slice A n c) s.num s.den) := by rw [← hw2, ← hN]; exact box_new W _ _ _
  obtain ⟨r0, r1, r2, _⟩ := three_heads HX.out.ring
  obtain ⟨o0, o1, o2, o3, o4, o5⟩ := three_heads HX.out.res
  have HF2 := Lib.hid (refFind_any w2 _ s id (HROW.out w2 HX.out.bel) (by have := HS.out.len; omega))
  unfold refV at *
  clear h hs hat hn
  obtain ⟨i0, hi, hz0, hz1, hz2⟩ := info_parts Try.infoRm
  unfold leaveA
  cases hq : findK s.l id with
  | none =>
    rw [hq] at HF2
    have e : idxO none = -1 := rfl
    rw [e] at HF2
    clear hq e
    go_enter Try.func44, Try.ntmps44
    go_wp2_with fail
    clear hw2 hN
    refine HF2.out.mono ?_
    rintro e w3 ⟨rfl, hb⟩
    have HX3 := Lib.hid (HX.out.below hb)
    clear hb r0 r1 r2 o0 o1 o2 o3 o4 o5
    obtain ⟨r0, r1, r2, r3, r4, r5⟩ := three_heads HX3.out.ring
    obtain ⟨o0, o1, o2, o3, o4, o5⟩ := three_heads HX3.out.res
    have HDN := Lib.hid (HX3.out.done (s' := s) (HROW.out _ HX3.out.bel) (10))
    go_wp2_with fail
    refine bodyPost_ret (v := .tuple #[.agg #[.slice A n c, .int .i64 s.num, .int .i64 s.den], .int .i64 (10)]) (results_row_tmp rfl _ _ (N + 1) _ _ _ _ rfl HDN.out.1 Try.underlying30 rfl (Try.sizeRr _ _ _) _ rfl) rfl ?_
    exact HDN.out.2

  | some k =>
    rw [hq] at HF2
    have e : idxO (some k) = (k : Int) := rfl
    rw [e] at HF2
    obtain ⟨m, hm, hid⟩ := findK_some hq
    have hk0 : (0 : Int) ≤ (k : Int) := by omega
    have HCUT : Hid ((s.l.take n).filter (fun y => decide ((y.id : Int) ≠ id)) = cutAt s.l k) := by
      show _ = _
      rw [← HN.out, List.take_length, ← filter_cut s.l k m hsrt hm]
      congr 1
      funext y
      rw [← hid]
      by_cases h : y.id = m.id
      · simp [h]
      · have h2 : ¬ ((y.id : Int) = (m.id : Int)) := by omega
        simp [h, h2]
    have HLEN : Hid (∀ i, i ≤ n → ((s.l.take i).filter (fun y => decide ((y.id : Int) ≠ id))).length ≤ 100) := fun i hi => by
      have := List.length_filter_le (fun y : Mb => decide ((y.id : Int) ≠ id)) (s.l.take i)
      rw [List.length_take] at this
      omega
    have HFL := Lib.hid (fun (w' : World) (hb : Below W.heap.size W w') => refFloor_any w' _ s (HROW.out w' hb) HS.out)
    unfold leaveR
    obtain ⟨fa, hfa⟩ : ∃ x, (floorN s).1 = x := ⟨_, rfl⟩
    obtain ⟨fd, hfd⟩ : ∃ x, (floorN s).2 = x := ⟨_, rfl⟩
    rw [hfa, hfd] at HFL ⊢
    unfold refV at HFL
    clear e hid hm hq hsrt hfa hfd
    go_enter Try.func44, Try.ntmps44
    go_wp2_with fail
    clear hw2 hN

    refine HF2.out.mono ?_
    rintro e w3 ⟨rfl, hb⟩
    have HX3 := Lib.hid (HX.out.below hb)
    clear hb r0 r1 r2 o0 o1 o2 o3 o4 o5
    obtain ⟨r0, r1, r2, r3, r4, r5⟩ := three_heads HX3.out.ring
    obtain ⟨o0, o1, o2, o3, o4, o5⟩ := three_heads HX3.out.res
    go_wp2_with fail
    refine (HFL.out _ HX3.out.bel).mono ?_
    rintro e w5 ⟨rfl, hb⟩
    have HX5 := Lib.hid (HX3.out.below hb)
    clear hb r0 r1 r2 r3 r4 r5 o0 o1 o2 o3 o4 o5
    obtain ⟨r0, r1, r2, r3, r4, r5⟩ := three_heads HX5.out.ring
    have HX6 := Lib.hid (HX5.out.last fa fd)
    obtain ⟨w6, hw6⟩ : ∃ w6, (w5.setCell ⟨N, 1, none⟩ (.int .i64 fa)).setCell ⟨N, 2, none⟩ (.int .i64 fd) = w6 := ⟨_, rfl⟩
    rw [hw6] at HX6
    go_upto_region 5 with fail
    obtain ⟨M, hM⟩ : ∃ M, w6.heap.size = M := ⟨_, rfl⟩
    have HMM := Lib.hid hM
    rw [hM]
    have HE0 : Hid ((w6.alloc (.cells #[] 71)).ownsRow M 71 4 (.slice (some ⟨M, 0, none⟩) 0 0) 0 []) := by
      have := own_empty w6 71
      rw [hM] at this
      exact this
    have HBE : Hid (Below w6.heap.size w6 (w6.alloc (.cells #[] 71))) := (Below.refl _ w6).alloc (Nat.le_refl _) _
    clear hw6 hM r0 r1 r2 r3 r4 r5
    go_wp2_with fail
    go_loopg [6, 7] n (fun gg s5 si wr => ∃ i : Nat, i ≤ n ∧ gg = n - i ∧ si = .int .i64 i ∧ Below w6.heap.size w6 wr ∧ wr.ownsRow M 71 4 s5 ((s.l.take i).filter (fun y => decide ((y.id : Int) ≠ id))).length (rowR ((s.l.take i).filter (fun y => decide ((y.id : Int) ≠ id)))))
    case atStart => exact ⟨0, Nat.zero_le _, by omega, rfl, HBE.out, HE0.out⟩
    case round =>
      obtain ⟨i, hin, hg, rfl, hbw, hown⟩ := hrel
      have HG1 := Lib.hid hg
      have HB := Lib.hid hbw
      have HO := Lib.hid hown
      have HXR := Lib.hid (HX6.out.below hbw)
      clear hg hbw hown
      obtain ⟨r0, r1, r2, r3, r4, r5⟩ := three_heads HXR.out.ring
      have hi0 : (0 : Int) ≤ (i : Int) := by omega
      have hfl := HLEN.out i hin
      by_cases hlt : i < n
      · have hltz : (i : Int) < (n : Int) := by omega
        obtain ⟨y, hy⟩ := ex_at (xs := s.l) (k := i) (by have := HN.out; omega)
        obtain ⟨g, hA, hgl, hr⟩ := HAT.out i y hy
        subst hA
        obtain ⟨a0, a1, a2, a3⟩ := hr.keep (HXR.out.bel.block g hgl)
        have HFT := Lib.hid (filt_take (p := fun y => decide ((y.id : Int) ≠ id)) hy)
        clear hr hgl hy
        by_cases hq : (y.id : Int) = id
        · rw [if_neg (by simpa using hq)] at HFT
          have q1 : ((y.id : Int) != id) = false := by simpa using hq
          clear hq
          go_wp2_with fail
          go_roundg (n - (i + 1))
          case measure => have := HG1.out; omega
          case rel =>
            refine ⟨i + 1, by omega, rfl, by go_num, HB.out, ?_⟩
            rw [show (s.l.take (i + 1)).filter (fun y => decide ((y.id : Int) ≠ id)) = (s.l.take i).filter (fun y => decide ((y.id : Int) ≠ id)) by rw [HFT.out]; simp]
            exact HO.out
        · rw [if_pos (by simpa using hq)] at HFT
          have q1 : ((y.id : Int) != id) = true := by simpa using hq
          obtain ⟨row, hrow⟩ : ∃ row, (s.l.take i).filter (fun y => decide ((y.id : Int) ≠ id)) = row := ⟨_, rfl⟩
          rw [hrow] at HO hfl
          have HROW2 := Lib.hid hrow
          clear hrow hq
          have HOA := Lib.hid (own_below HO.out ((Below.refl _ wr).alloc (Nat.le_refl _) (Obj.cells #[.int .i64 y.id, .int .i64 y.w, .int .i64 y.n, .bool y.on] 71)))
          have HBA := Lib.hid (HB.out.alloc HB.out.size (Obj.cells #[.int .i64 y.id, .int .i64 y.w, .int .i64 y.n, .bool y.on] 71))
          have HN2 := Lib.hid (news_rm wr wr.heap.size rfl 71 y)
          have HE2 := Lib.hid (rm_one y)
          have HM2 := Lib.hid (show row.length + 1 ≤ maxLen by unfold maxLen; omega)
          have HY2 := Lib.hid (show (row.length + 1) * 32 ≤ 140737488355328 by omega)
          have HZ2 := Lib.hid (show M ≤ (wr.alloc (Obj.cells #[.int .i64 y.id, .int .i64 y.w, .int .i64 y.n, .bool y.on] 71)).heap.size by have := HBA.out.size; have := HMM.out; omega)
          go_wp2_with (at_builtin; refine wpList_append_own _ rfl _ _ 28 rfl M 71 i0 (.agg #[.int .i64 0, .int .i64 0, .int .i64 0, .bool false]) 4 32 Try.underlying28 hi hz0 hz1 hz2 rfl (by decide) _ _ _ rfl HOA.out ⟨wr.heap.size, 0, none⟩ 1 1 (rmCells y) rfl rfl HN2.out HE2.out HM2.out HY2.out HZ2.out ?_)
          intro v4 w4 hown hgrow _
          have HOw4 := Lib.hid hown
          have HBw4 := Lib.hid (HBA.out.trans (by have hx := below_grown hgrow HZ2.out (own_base HOA.out); rw [HMM.out]; exact hx))
          clear hown hgrow

          go_wp2_with fail
          go_roundg (n - (i + 1))
          case measure => have := HG1.out; omega
          case rel =>
            refine ⟨i + 1, by omega, rfl, by go_num, HBw4.out, ?_⟩
            rw [show (s.l.take (i + 1)).filter (fun y => decide ((y.id : Int) ≠ id)) = row ++ [y] by rw [← HROW2.out, HFT.out], rowR_snoc, List.length_append]
            exact HOw4.out
      · have hltz : ¬ (i : Int) < (n : Int) := by omega
        have hine : n = i := by omega
        subst hine
        rw [HCUT.out] at HO hfl
        obtain ⟨A', c', rfl⟩ := own_form HO.out
        have HRW := Lib.hid (own_mono (base' := 0) HO.out (Nat.zero_le _))
        have HXT := Lib.hid (HXR.out.setv HRW.out)
        have HRT := Lib.hid (HXR.out.setv_row HRW.out)
        obtain ⟨o0, o1, o2, o3, o4, o5⟩ := three_heads HXT.out.res
        obtain ⟨p0, p1, p2, _⟩ := three_heads HXT.out.ring
        have HDN := Lib.hid (HXT.out.done (s' := { s with num := fa, den := fd, l := cutAt s.l k }) HRT.out 0)
        obtain ⟨w7, hw7⟩ : ∃ w7, wr.setCell ⟨N, 0, none⟩ (.slice A' (cutAt s.l k).length c') = w7 := ⟨_, rfl⟩
        rw [hw7] at o0 o1 o2 o3 o4 o5 p0 p1 p2 HDN
        generalize (cutAt s.l k).length = len2 at *
        clear hfl
        go_wp2_with fail
        refine bodyPost_ret (v := .tuple #[.agg #[.slice A' len2 c', .int .i64 fa, .int .i64 fd], .int .i64 0]) (results_row_tmp rfl _ _ (N + 1) _ _ _ _ rfl HDN.out.1 Try.underlying30 rfl (Try.sizeRr _ _ _) _ rfl) rfl ?_
        exact HDN.out.2
end Go.Proofs.Ytanchjcifhbllaa
