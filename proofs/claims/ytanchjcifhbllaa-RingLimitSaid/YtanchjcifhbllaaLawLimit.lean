/-
  Rings of unlike limits tell the same, however long they go on.
  Conditions: none beyond the argument's own reading.
-/
import Derived.Test.YtanchjcifhbllaaTwo
set_option linter.unusedVariables false
namespace Go.Proofs.Ytanchjcifhbllaa
open Go.RowKit

set_option maxRecDepth 100000 in
set_option maxHeartbeats 8000000 in
theorem limit_law (v : Value) (acts : List ActH) (pk lm : Nat) (W : World) (hA : ActsAt W v acts) (hok : ∀ a ∈ acts, ActOk a) (hpk : pk < 65536) (hlm : lm < 65536) : Calls Try.prog 7 #[v, .int .u16 pk, .int .u16 lm] W (RetB (.bool true) W) := by
  have HAW := Lib.hid awake_any
  have HNB := Lib.hid new_big
  have HOK := Lib.hid hok
  obtain ⟨A, c, rfl, hlen, hat⟩ := hA
  have HAT := Lib.hid hat
  obtain ⟨n, hn⟩ : ∃ n, acts.length = n := ⟨_, rfl⟩
  have HN := Lib.hid hn
  rw [hn] at hlen ⊢
  clear hok hat hn
  obtain ⟨NN, hNN⟩ : ∃ NN, pk % 6000 = NN := ⟨_, rfl⟩
  have hNl : NN < 6000 := by rw [← hNN]; exact Nat.mod_lt _ (by decide)
  have r2 : (pk : Int) % 6000 = (NN : Int) := by rw [← hNN]; exact (Int.natCast_emod pk 6000).symm
  have r3 : (pk : Int).tmod 6000 = (NN : Int) := by rw [← hNN]; rfl
  obtain ⟨lr, hlr⟩ : ∃ lr, lm % 1000 = lr := ⟨_, rfl⟩
  have hll : lr < 1000 := by rw [← hlr]; exact Nat.mod_lt _ (by decide)
  have r4 : (lm : Int) % 1000 = (lr : Int) := by rw [← hlr]; exact (Int.natCast_emod lm 1000).symm
  have r5 : (lm : Int).tmod 1000 = (lr : Int) := by rw [← hlr]; rfl
  obtain ⟨LL, hLL⟩ : ∃ LL, 2048 + lr = LL := ⟨_, rfl⟩
  have r6 : (2048 : Int) + (lr : Int) = (LL : Int) := by omega
  have HLL := Lib.hid (show 2048 ≤ LL ∧ LL ≤ 1099511627776 by omega)
  have HNA := Lib.hid (fun W => new_ok LL HLL.out.1 HLL.out.2 W)
  clear hNN hlr hLL
  go_enter Try.func7, Try.ntmps7
  go_wp2_with fail
  refine (HNA.out _).mono ?_
  intro e w1 hn1
  have HN1 := Lib.hid hn1
  obtain ⟨hv, _⟩ := hn1
  rw [hv]
  clear hv
  go_wp2_with fail
  refine (HNB.out _).mono ?_
  intro e w2 hn2
  have htwo := two_new HN1.out HLL.out.1 HLL.out.2 hn2
  obtain ⟨hv, _⟩ := hn2
  rw [hv]
  clear hv
  obtain ⟨ra, hra⟩ : ∃ ra, W.heap.size = ra := ⟨_, rfl⟩
  obtain ⟨rb, hrb⟩ : ∃ rb, w1.heap.size = rb := ⟨_, rfl⟩
  have HRA := Lib.hid hra
  rw [hra, hrb] at htwo
  have H1 := Lib.hid htwo
  rw [hra, hrb]
  clear htwo hra hrb r4 r5 r6 hll
  go_wp2_with fail
  go_loopg [11] n (fun gg so wr => ∃ (i : Nat) (mva mvb : Value) (PA PB S : Rg), i ≤ n ∧ gg = n - i ∧ so = .int .i64 i ∧ Two ra W wr ra mva PA rb mvb PB S)
  case atStart => exact ⟨0, _, _, _, _, _, Nat.zero_le _, by omega, rfl, H1.out⟩
  case round =>
    obtain ⟨i, mva, mvb, PA, PB, S, hi, hg, rfl, ht⟩ := hrel
    have TT := Lib.hid ht
    have HG := Lib.hid hg
    clear ht hg
    have hi0 : (0 : Int) ≤ (i : Int) := by omega
    by_cases hlt : i < n
    · have hltz : (i : Int) < (n : Int) := by omega
      by_cases hl6 : i < 20
      · have hl7 : (i : Int) < 20 := by omega
        obtain ⟨b, off, hA, hbl, hcells⟩ := HAT.out (by have := HN.out; omega)
        subst hA
        obtain ⟨y, hy⟩ := ex_at (xs := acts) (k := i) (by have := HN.out; omega)
        have hnu := HOK.out y (List.mem_of_getElem? hy)
        have HCELL0 : Hid (∀ w', Below ra W w' → ActAt w' b (off + i * 4) y) := fun w' hb => (hcells i y hy).keep hb (by have := HRA.out; omega)
        obtain ⟨kd, id, w, nu⟩ := y
        have HCELL : Hid (∀ w', Below ra W w' → w'.cell? ⟨b, off + i * 4, none⟩ = some (.int .i64 kd) ∧ w'.cell? ⟨b, off + i * 4 + 1, none⟩ = some (.int .i64 id) ∧ w'.cell? ⟨b, off + i * 4 + 2, none⟩ = some (.int .i64 w) ∧ w'.cell? ⟨b, off + i * 4 + 3, none⟩ = some (.int .u8 (nu : Int))) := HCELL0.out
        unfold ActOk at hnu
        simp only at hnu
        have TD : Hid (Two ra W wr.drew ra mva PA rb mvb PB S) := TT.out.below (below_drewN (Below.refl _ wr) 1)
        obtain ⟨cv, hcv⟩ : ∃ cv : Int, (callA S kd id w).1 = cv := ⟨_, rfl⟩
        have hcv : callV S kd id w = .int .i64 cv := by unfold callV; rw [hcv]
        have mixed : Try.prog.follows .mixedOrders = true := by kernel_rfl
        have hbl2 : (b : Nat) < b + 1 := Nat.lt_succ_self b
        clear hcells hy HCELL0
        go_upto_region 8 with fail
        go_cut [73] from 61 to 73 (fun s73 wx => s73 = .bool false ∧ ∃ mva' mvb', Held ra W wx ra mva' (callA PA kd id w).2 ∧ Held ra W wx rb mvb' (callA PB kd id w).2 ∧ Aside (Foot rb mvb') wx ra mva')
        case first =>
          have HDR := Lib.hid (show Below ra W wr.drew from TT.out.a.bel.trans (below_drewN (Below.refl ra wr) 1))
          refine wp_region_N (S1 := fun w' => Below ra W w') (S2 := fun W => True) (N := fun i => i != 99) (by kernel_rfl) ?_
          change wpAnyN _ _ _ _ _ _ _ 13 (Array.replicate 13 false) _ _
          refine wpAnyN_take false (i := 0) (v := .pointer (some ⟨ra, 0, none⟩)) rfl (by kernel_rfl) (by kernel_rfl) (by kernel_rfl) (fun _ _ _ h => h) (.inl ⟨by kernel_rfl, fun W_ hS => ?_⟩) ⟨HDR.out, fun h => by cases h⟩ ?_
          · simp [execOp, Act.eval, go_sem]
          refine wpAnyN_take false (i := 1) (v := .slice (some ⟨b, off, none⟩) n c) rfl (by kernel_rfl) (by kernel_rfl) (by kernel_rfl) (fun _ _ _ h => h) (.inl ⟨by kernel_rfl, fun W_ hS => ?_⟩) ⟨HDR.out, fun h => by cases h⟩ ?_
          · simp [execOp, Act.eval, Act.put, go_sem]
          refine wpAnyN_take false (i := 2) (v := .int .i64 i) rfl (by kernel_rfl) (by kernel_rfl) (by kernel_rfl) (fun _ _ _ h => h) (.inl ⟨by kernel_rfl, fun W_ hS => ?_⟩) ⟨HDR.out, fun h => by cases h⟩ ?_
          · simp [execOp, Act.eval, Act.put, go_sem]
          refine wpAnyN_take false (i := 3) (v := .pointer (some ⟨b, off + i * 4, none⟩)) rfl (by kernel_rfl) (by kernel_rfl) (by kernel_rfl) (fun _ _ _ h => h) (.inl ⟨by kernel_rfl, fun W_ hS => ?_⟩) ⟨HDR.out, fun h => by cases h⟩ ?_
          · simp [execOp, Act.eval, Act.put, go_sem, hltz, hi0]
          simp only [Act.put]
          go_simp
          refine wpAnyN_take false (i := 4) (v := .agg #[.int .i64 kd, .int .i64 id, .int .i64 w, .int .u8 nu]) rfl (by kernel_rfl) (by kernel_rfl) (by kernel_rfl) (fun _ _ _ h => h) (.inl ⟨by kernel_rfl, fun W_ hS => ?_⟩) ⟨HDR.out, fun h => by cases h⟩ ?_
          · simp [execOp, Act.eval, go_sem, (HCELL.out W_ hS.1).1, (HCELL.out W_ hS.1).2.1, (HCELL.out W_ hS.1).2.2.1, (HCELL.out W_ hS.1).2.2.2]
          simp only [Act.put]
          go_simp
          refine wpAnyN_take false (i := 6) (v := .pointer (some ⟨rb, 0, none⟩)) rfl (by kernel_rfl) (by kernel_rfl) (by kernel_rfl) (fun _ _ _ h => h) (.inl ⟨by kernel_rfl, fun W_ hS => ?_⟩) ⟨HDR.out, fun h => by cases h⟩ ?_
          · simp [execOp, Act.eval, go_sem]
          refine wpAnyN_take false (i := 7) (v := .slice (some ⟨b, off, none⟩) n c) rfl (by kernel_rfl) (by kernel_rfl) (by kernel_rfl) (fun _ _ _ h => h) (.inl ⟨by kernel_rfl, fun W_ hS => ?_⟩) ⟨HDR.out, fun h => by cases h⟩ ?_
          · simp [execOp, Act.eval, Act.put, go_sem]
          refine wpAnyN_take false (i := 8) (v := .int .i64 i) rfl (by kernel_rfl) (by kernel_rfl) (by kernel_rfl) (fun _ _ _ h => h) (.inl ⟨by kernel_rfl, fun W_ hS => ?_⟩) ⟨HDR.out, fun h => by cases h⟩ ?_
          · simp [execOp, Act.eval, Act.put, go_sem]
          refine wpAnyN_take false (i := 9) (v := .pointer (some ⟨b, off + i * 4, none⟩)) rfl (by kernel_rfl) (by kernel_rfl) (by kernel_rfl) (fun _ _ _ h => h) (.inl ⟨by kernel_rfl, fun W_ hS => ?_⟩) ⟨HDR.out, fun h => by cases h⟩ ?_
          · simp [execOp, Act.eval, Act.put, go_sem, hltz, hi0]
          simp only [Act.put]
          go_simp
          refine wpAnyN_take false (i := 10) (v := .agg #[.int .i64 kd, .int .i64 id, .int .i64 w, .int .u8 nu]) rfl (by kernel_rfl) (by kernel_rfl) (by kernel_rfl) (fun _ _ _ h => h) (.inl ⟨by kernel_rfl, fun W_ hS => ?_⟩) ⟨HDR.out, fun h => by cases h⟩ ?_
          · simp [execOp, Act.eval, go_sem, (HCELL.out W_ hS.1).1, (HCELL.out W_ hS.1).2.1, (HCELL.out W_ hS.1).2.2.1, (HCELL.out W_ hS.1).2.2.2]
          simp only [Act.put]
          go_simp
          refine wpAnyN_step (i := 5) (by kernel_rfl) rfl (by kernel_rfl) ?_
          intro K' hK
          try simp only [Act.put]
          go_simp
          have HCL4 := Lib.hid (call_any _ ra _ PA kd id w nu TD.out.a.lies TD.out.a.ok)
          rw [TT.out.ga.callV, hcv] at HCL4
          refine HCL4.out.mono ?_
          intro e w4 hm
          obtain ⟨mv4, hv, ha4, hb4, hs4⟩ := two_mutA TD.out.a TD.out.b TD.out.s hm (TD.out.a.ok.call kd id w)
          obtain rfl := hv
          have HA4 := Lib.hid ha4
          have HB4 := Lib.hid hb4
          have HS4 := Lib.hid hs4
          clear hm ha4 hb4 hs4
          refine hK.out _ _ (HA4.out.bel) (fun _ _ => trivial) ?_
          refine wpAnyN_step (i := 11) (by kernel_rfl) rfl (by kernel_rfl) ?_
          intro K' hK
          try simp only [Act.put]
          go_simp
          have HCL5 := Lib.hid (call_any _ rb _ PB kd id w nu HB4.out.lies HB4.out.ok)
          rw [TT.out.gb.callV, hcv] at HCL5
          refine HCL5.out.mono ?_
          intro e w5 hm
          obtain ⟨mv5, hv, ha5, hb5, hs5⟩ := two_mutB HA4.out HB4.out HS4.out hm (HB4.out.ok.call kd id w)
          obtain rfl := hv
          have HA5 := Lib.hid ha5
          have HB5 := Lib.hid hb5
          have HS5 := Lib.hid hs5
          clear hm ha5 hb5 hs5
          refine hK.out _ _ (HA5.out.bel) (fun _ _ => trivial) ?_
          refine wpAnyN_take false (i := 12) (v := .bool false) rfl (by kernel_rfl) (by kernel_rfl) (by kernel_rfl) (fun _ _ _ h => h) (.inl ⟨by kernel_rfl, fun W_ hS => ?_⟩) ⟨HA5.out.bel, fun h => by cases h⟩ ?_
          · simp [execOp, Act.eval, go_sem]
          refine wpAnyN_done (by kernel_rfl) ?_
          try simp only [Act.put]
          try go_simp
          go_wp2_with fail
          go_meet
          case rel => exact ⟨rfl, _, _, HA5.out, HB5.out, HS5.out⟩

        case rest =>
          obtain ⟨rfl, mva2, mvb2, ha2, hb2, hs2⟩ := hcut
          have T2 : Hid (Two ra W wc ra mva2 (callA PA kd id w).2 rb mvb2 (callA PB kd id w).2 (callA S kd id w).2) := ⟨ha2, hb2, hs2, TT.out.ga.call kd id w, TT.out.gb.call kd id w⟩
          obtain ⟨x0, x1, x2, x3⟩ := HCELL.out wc ha2.bel
          clear ha2 hb2 hs2 hcv
          go_wp2_with fail
          go_loopg [12] NN (fun gg sp wr2 => ∃ (k : Nat) (mva' mvb' : Value) (PA' PB' S' : Rg), k ≤ NN ∧ gg = NN - k ∧ sp = .int .i64 k ∧ Two ra W wr2 ra mva' PA' rb mvb' PB' S')
          case atStart => exact ⟨0, _, _, _, _, _, Nat.zero_le _, by omega, rfl, T2.out⟩
          case round =>
            obtain ⟨k, mva3, mvb3, PA3, PB3, S3, hk, hg, rfl, ht⟩ := hrel
            have T3 := Lib.hid ht
            have HG3 := Lib.hid hg
            clear ht hg x0 x1 x2 x3
            obtain ⟨x0, x1, x2, x3⟩ := HCELL.out wr T3.out.a.bel
            have hk0 : (0 : Int) ≤ (k : Int) := by omega
            by_cases hkd : kd = 5
            · have q5 : (kd == 5) = true := beq_iff_eq.2 hkd
              by_cases hlt2 : k < NN
              · have q6 : (k : Int) < (NN : Int) := by omega
                have HPA := Lib.hid (pick_any wr ra mva3 PA3 T3.out.a.lies T3.out.a.ok)
                rw [T3.out.ga.pickV] at HPA
                clear hkd
                rcases pickV_form S3 with hpf | ⟨xi, hpf⟩
                · rw [hpf] at HPA
                  have HPF := Lib.hid hpf
                  clear hpf
                  go_wp2_with fail
                  refine HPA.out.mono ?_
                  intro e w7 hm
                  obtain ⟨mva4, hv, ha4, hb4, hs4⟩ := two_mutA T3.out.a T3.out.b T3.out.s hm T3.out.a.ok.pick
                  obtain rfl := hv
                  have HA4 := Lib.hid ha4
                  have HB4 := Lib.hid hb4
                  have HS4 := Lib.hid hs4
                  have HPB := Lib.hid (pick_any w7 rb mvb3 PB3 hb4.lies hb4.ok)
                  rw [T3.out.gb.pickV, HPF.out] at HPB
                  clear hm ha4 hb4 hs4
                  go_wp2_with fail
                  refine HPB.out.mono ?_
                  intro e w8 hm
                  obtain ⟨mvb5, hv, ha5, hb5, hs5⟩ := two_mutB HA4.out HB4.out HS4.out hm HB4.out.ok.pick
                  obtain rfl := hv
                  have T8 : Hid (Two ra W w8 ra mva4 (pickA PA3).2 rb mvb5 (pickA PB3).2 (plainA S3).2) := ⟨ha5, hb5, hs5, T3.out.ga.pick, T3.out.gb.pick⟩
                  clear hm ha5 hb5 hs5
                  have HME := Lib.hid (members_any w8 rb mvb5 (pickA PB3).2 T8.out.b.lies T8.out.b.ok)
                  go_wp2_with fail
                  refine HME.out.mono ?_
                  rintro e w5 ⟨v5, rfl, ht, hb⟩
                  have T5 := Lib.hid (T8.out.below hb)
                  obtain ⟨bt, hbt, hbt1, hbt2, hbt3⟩ := ht
                  subst hbt
                  obtain ⟨nl, hnl⟩ : ∃ nl, (pickA PB3).2.l.length = nl := ⟨_, rfl⟩
                  have HNLL := Lib.hid hnl
                  rw [hnl]
                  have HTC := Lib.hid hbt3
                  have HTL := Lib.hid hbt2
                  have hnl32 : nl ≤ 32 := by have := T8.out.b.ok.len; omega
                  clear hb hbt1 hbt2 hbt3 hnl x0 x1 x2 x3
                  go_wp2_with fail
                  go_loopg [112] nl (fun gg sj wr3 => ∃ j : Nat, j ≤ nl ∧ gg = nl - j ∧ sj = .int .i64 j ∧ Below w5.heap.size w5 wr3)
                  case atStart => exact ⟨0, Nat.zero_le _, by omega, rfl, Below.refl _ _⟩
                  case round =>
                    obtain ⟨j, hj, hg, rfl, hbw⟩ := hrel
                    have HB6 := Lib.hid hbw
                    have HG6 := Lib.hid hg
                    clear hbw hg
                    have hj0 : (0 : Int) ≤ (j : Int) := by omega
                    by_cases hltj : j < nl
                    · have hltjz : (j : Int) < (nl : Int) := by omega
                      obtain ⟨p, hp⟩ := ex_at (xs := (pickA PB3).2.l) (k := j) (by have := HNLL.out; omega)
                      obtain ⟨z0, z1, z2⟩ := HTC.out j p hp
                      have e6 := HB6.out.block bt HTL.out
                      have t0 := (cell_same e6 _).trans z0
                      have t1 := (cell_same e6 _).trans z1
                      have t2 := (cell_same e6 _).trans z2
                      have T6 := Lib.hid (T5.out.below HB6.out)
                      obtain ⟨N7, hN7⟩ : ∃ N7, wr.heap.size = N7 := ⟨_, rfl⟩
                      obtain ⟨w7, hw7⟩ : ∃ w7, wr.alloc (.cells #[.int .i64 p.id, .int .i64 p.w, .bool p.on] 44) = w7 := ⟨_, rfl⟩
                      have hb7 : Below wr.heap.size wr w7 := by rw [← hw7]; exact (Below.refl _ wr).alloc (Nat.le_refl _) _
                      have HN7 : Hid (w7.heap[N7]? = some (.cells #[.int .i64 p.id, .int .i64 p.w, .bool p.on] 44 (0, 0))) := by rw [← hw7]; exact alloc_block wr _ hN7
                      have T7 := Lib.hid (T6.out.below hb7)
                      have HB7 := Lib.hid (HB6.out.trans (hb7.mono HB6.out.size))
                      obtain ⟨x, y, bo, hlo⟩ := leadO_form (plainA S3).2 (p.id : Int)
                      have HLA := Lib.hid (lead_any w7 ra mva4 (pickA PA3).2 (p.id : Int) T7.out.a.lies T7.out.a.ok)
                      rw [T7.out.ga.leadO, hlo] at HLA
                      have HLB := Lib.hid (fun w8 (hb : Below w7.heap.size w7 w8) => by
                        have := lead_any w8 rb mvb5 (pickA PB3).2 (p.id : Int) (T7.out.below hb).b.lies T7.out.b.ok
                        rw [T7.out.gb.leadO, hlo] at this
                        exact this)
                      clear z0 z1 z2 e6 hb7 hlo hp
                      obtain ⟨p1, p2, p3, p4⟩ := p
                      have n0 : w7.cell? ⟨N7, 0, none⟩ = some (.int .i64 p1) := by simp [World.cell?, HN7.out]
                      have m0 : ∀ o, w7.frozen? ⟨N7, o, none⟩ = false := fun o => by simp [World.frozen?, HN7.out]
                      simp only at t0 t1 t2 HLA HLB hw7
                      have HKEEP : Hid (∀ w', Below w7.heap.size w7 w' → w'.cell? ⟨N7, 0, none⟩ = some (.int .i64 p1)) := fun w' hb => by
                        have := keep_block HN7.out hb
                        simp [World.cell?, this]
                      go_wp2_with fail
                      refine HLA.out.mono ?_
                      rintro e w8 ⟨rfl, hb⟩
                      have n0' := HKEEP.out w8 hb
                      have HL8 := Lib.hid (HLB.out w8 hb)
                      have HB8 := Lib.hid (HB7.out.trans (hb.mono HB7.out.size))
                      clear hb n0 m0 t0 t1 t2 hw7 hN7
                      go_wp2_with fail
                      refine HL8.out.mono ?_
                      rintro e w9 ⟨rfl, hb⟩
                      have HB9 := Lib.hid (HB8.out.trans (hb.mono HB8.out.size))
                      clear hb n0'
                      go_wp2_with fail
                      go_roundg (nl - (j + 1))
                      case measure => have := HG6.out; omega
                      case rel => exact ⟨j + 1, by omega, rfl, by go_num, HB9.out⟩
                    · have hltjz : ¬ (j : Int) < (nl : Int) := by omega
                      have T9 := Lib.hid (T5.out.below HB6.out)
                      go_wp2_with fail
                      go_roundg (n - (i + 1))
                      case measure => have := HG.out; omega
                      case rel => exact ⟨i + 1, _, _, _, _, _, by omega, rfl, by go_num, T9.out⟩

                · rw [hpf] at HPA
                  have HPF := Lib.hid hpf
                  clear hpf
                  go_wp2_with fail
                  refine HPA.out.mono ?_
                  intro e w7 hm
                  obtain ⟨mva4, hv, ha4, hb4, hs4⟩ := two_mutA T3.out.a T3.out.b T3.out.s hm T3.out.a.ok.pick
                  obtain rfl := hv
                  have HA4 := Lib.hid ha4
                  have HB4 := Lib.hid hb4
                  have HS4 := Lib.hid hs4
                  have HPB := Lib.hid (pick_any w7 rb mvb3 PB3 hb4.lies hb4.ok)
                  rw [T3.out.gb.pickV, HPF.out] at HPB
                  clear hm ha4 hb4 hs4
                  go_wp2_with fail
                  refine HPB.out.mono ?_
                  intro e w8 hm
                  obtain ⟨mvb5, hv, ha5, hb5, hs5⟩ := two_mutB HA4.out HB4.out HS4.out hm HB4.out.ok.pick
                  obtain rfl := hv
                  have T8 : Hid (Two ra W w8 ra mva4 (pickA PA3).2 rb mvb5 (pickA PB3).2 (plainA S3).2) := ⟨ha5, hb5, hs5, T3.out.ga.pick, T3.out.gb.pick⟩
                  clear hm ha5 hb5 hs5
                  go_wp2_with fail
                  go_roundg (NN - (k + 1))
                  case measure => have := HG3.out; omega
                  case rel => exact ⟨k + 1, _, _, _, _, _, by omega, rfl, by go_num, T8.out⟩
              · have q6 : ¬ (k : Int) < (NN : Int) := by omega
                clear hkd
                have HME := Lib.hid (members_any wr rb mvb3 PB3 T3.out.b.lies T3.out.b.ok)
                go_wp2_with fail
                refine HME.out.mono ?_
                rintro e w5 ⟨v5, rfl, ht, hb⟩
                have T5 := Lib.hid (T3.out.below hb)
                obtain ⟨bt, hbt, hbt1, hbt2, hbt3⟩ := ht
                subst hbt
                obtain ⟨nl, hnl⟩ : ∃ nl, PB3.l.length = nl := ⟨_, rfl⟩
                have HNLL := Lib.hid hnl
                rw [hnl]
                have HTC := Lib.hid hbt3
                have HTL := Lib.hid hbt2
                have hnl32 : nl ≤ 32 := by have := T3.out.b.ok.len; omega
                clear hb hbt1 hbt2 hbt3 hnl x0 x1 x2 x3
                go_wp2_with fail
                go_loopg [112] nl (fun gg sj wr3 => ∃ j : Nat, j ≤ nl ∧ gg = nl - j ∧ sj = .int .i64 j ∧ Below w5.heap.size w5 wr3)
                case atStart => exact ⟨0, Nat.zero_le _, by omega, rfl, Below.refl _ _⟩
                case round =>
                  obtain ⟨j, hj, hg, rfl, hbw⟩ := hrel
                  have HB6 := Lib.hid hbw
                  have HG6 := Lib.hid hg
                  clear hbw hg
                  have hj0 : (0 : Int) ≤ (j : Int) := by omega
                  by_cases hltj : j < nl
                  · have hltjz : (j : Int) < (nl : Int) := by omega
                    obtain ⟨p, hp⟩ := ex_at (xs := PB3.l) (k := j) (by have := HNLL.out; omega)
                    obtain ⟨z0, z1, z2⟩ := HTC.out j p hp
                    have e6 := HB6.out.block bt HTL.out
                    have t0 := (cell_same e6 _).trans z0
                    have t1 := (cell_same e6 _).trans z1
                    have t2 := (cell_same e6 _).trans z2
                    have T6 := Lib.hid (T5.out.below HB6.out)
                    obtain ⟨N7, hN7⟩ : ∃ N7, wr.heap.size = N7 := ⟨_, rfl⟩
                    obtain ⟨w7, hw7⟩ : ∃ w7, wr.alloc (.cells #[.int .i64 p.id, .int .i64 p.w, .bool p.on] 44) = w7 := ⟨_, rfl⟩
                    have hb7 : Below wr.heap.size wr w7 := by rw [← hw7]; exact (Below.refl _ wr).alloc (Nat.le_refl _) _
                    have HN7 : Hid (w7.heap[N7]? = some (.cells #[.int .i64 p.id, .int .i64 p.w, .bool p.on] 44 (0, 0))) := by rw [← hw7]; exact alloc_block wr _ hN7
                    have T7 := Lib.hid (T6.out.below hb7)
                    have HB7 := Lib.hid (HB6.out.trans (hb7.mono HB6.out.size))
                    obtain ⟨x, y, bo, hlo⟩ := leadO_form S3 (p.id : Int)
                    have HLA := Lib.hid (lead_any w7 ra mva3 PA3 (p.id : Int) T7.out.a.lies T7.out.a.ok)
                    rw [T7.out.ga.leadO, hlo] at HLA
                    have HLB := Lib.hid (fun w8 (hb : Below w7.heap.size w7 w8) => by
                      have := lead_any w8 rb mvb3 PB3 (p.id : Int) (T7.out.below hb).b.lies T7.out.b.ok
                      rw [T7.out.gb.leadO, hlo] at this
                      exact this)
                    clear z0 z1 z2 e6 hb7 hlo hp
                    obtain ⟨p1, p2, p3, p4⟩ := p
                    have n0 : w7.cell? ⟨N7, 0, none⟩ = some (.int .i64 p1) := by simp [World.cell?, HN7.out]
                    have m0 : ∀ o, w7.frozen? ⟨N7, o, none⟩ = false := fun o => by simp [World.frozen?, HN7.out]
                    simp only at t0 t1 t2 HLA HLB hw7
                    have HKEEP : Hid (∀ w', Below w7.heap.size w7 w' → w'.cell? ⟨N7, 0, none⟩ = some (.int .i64 p1)) := fun w' hb => by
                      have := keep_block HN7.out hb
                      simp [World.cell?, this]
                    go_wp2_with fail
                    refine HLA.out.mono ?_
                    rintro e w8 ⟨rfl, hb⟩
                    have n0' := HKEEP.out w8 hb
                    have HL8 := Lib.hid (HLB.out w8 hb)
                    have HB8 := Lib.hid (HB7.out.trans (hb.mono HB7.out.size))
                    clear hb n0 m0 t0 t1 t2 hw7 hN7
                    go_wp2_with fail
                    refine HL8.out.mono ?_
                    rintro e w9 ⟨rfl, hb⟩
                    have HB9 := Lib.hid (HB8.out.trans (hb.mono HB8.out.size))
                    clear hb n0'
                    go_wp2_with fail
                    go_roundg (nl - (j + 1))
                    case measure => have := HG6.out; omega
                    case rel => exact ⟨j + 1, by omega, rfl, by go_num, HB9.out⟩
                  · have hltjz : ¬ (j : Int) < (nl : Int) := by omega
                    have T9 := Lib.hid (T5.out.below HB6.out)
                    go_wp2_with fail
                    go_roundg (n - (i + 1))
                    case measure => have := HG.out; omega
                    case rel => exact ⟨i + 1, _, _, _, _, _, by omega, rfl, by go_num, T9.out⟩

            · have q5 : (kd == 5) = false := beq_eq_false_iff_ne.2 hkd
              clear hkd
              have HME := Lib.hid (members_any wr rb mvb3 PB3 T3.out.b.lies T3.out.b.ok)
              go_wp2_with fail
              refine HME.out.mono ?_
              rintro e w5 ⟨v5, rfl, ht, hb⟩
              have T5 := Lib.hid (T3.out.below hb)
              obtain ⟨bt, hbt, hbt1, hbt2, hbt3⟩ := ht
              subst hbt
              obtain ⟨nl, hnl⟩ : ∃ nl, PB3.l.length = nl := ⟨_, rfl⟩
              have HNLL := Lib.hid hnl
              rw [hnl]
              have HTC := Lib.hid hbt3
              have HTL := Lib.hid hbt2
              have hnl32 : nl ≤ 32 := by have := T3.out.b.ok.len; omega
              clear hb hbt1 hbt2 hbt3 hnl x0 x1 x2 x3
              go_wp2_with fail
              go_loopg [112] nl (fun gg sj wr3 => ∃ j : Nat, j ≤ nl ∧ gg = nl - j ∧ sj = .int .i64 j ∧ Below w5.heap.size w5 wr3)
              case atStart => exact ⟨0, Nat.zero_le _, by omega, rfl, Below.refl _ _⟩
              case round =>
                obtain ⟨j, hj, hg, rfl, hbw⟩ := hrel
                have HB6 := Lib.hid hbw
                have HG6 := Lib.hid hg
                clear hbw hg
                have hj0 : (0 : Int) ≤ (j : Int) := by omega
                by_cases hltj : j < nl
                · have hltjz : (j : Int) < (nl : Int) := by omega
                  obtain ⟨p, hp⟩ := ex_at (xs := PB3.l) (k := j) (by have := HNLL.out; omega)
                  obtain ⟨z0, z1, z2⟩ := HTC.out j p hp
                  have e6 := HB6.out.block bt HTL.out
                  have t0 := (cell_same e6 _).trans z0
                  have t1 := (cell_same e6 _).trans z1
                  have t2 := (cell_same e6 _).trans z2
                  have T6 := Lib.hid (T5.out.below HB6.out)
                  obtain ⟨N7, hN7⟩ : ∃ N7, wr.heap.size = N7 := ⟨_, rfl⟩
                  obtain ⟨w7, hw7⟩ : ∃ w7, wr.alloc (.cells #[.int .i64 p.id, .int .i64 p.w, .bool p.on] 44) = w7 := ⟨_, rfl⟩
                  have hb7 : Below wr.heap.size wr w7 := by rw [← hw7]; exact (Below.refl _ wr).alloc (Nat.le_refl _) _
                  have HN7 : Hid (w7.heap[N7]? = some (.cells #[.int .i64 p.id, .int .i64 p.w, .bool p.on] 44 (0, 0))) := by rw [← hw7]; exact alloc_block wr _ hN7
                  have T7 := Lib.hid (T6.out.below hb7)
                  have HB7 := Lib.hid (HB6.out.trans (hb7.mono HB6.out.size))
                  obtain ⟨x, y, bo, hlo⟩ := leadO_form S3 (p.id : Int)
                  have HLA := Lib.hid (lead_any w7 ra mva3 PA3 (p.id : Int) T7.out.a.lies T7.out.a.ok)
                  rw [T7.out.ga.leadO, hlo] at HLA
                  have HLB := Lib.hid (fun w8 (hb : Below w7.heap.size w7 w8) => by
                    have := lead_any w8 rb mvb3 PB3 (p.id : Int) (T7.out.below hb).b.lies T7.out.b.ok
                    rw [T7.out.gb.leadO, hlo] at this
                    exact this)
                  clear z0 z1 z2 e6 hb7 hlo hp
                  obtain ⟨p1, p2, p3, p4⟩ := p
                  have n0 : w7.cell? ⟨N7, 0, none⟩ = some (.int .i64 p1) := by simp [World.cell?, HN7.out]
                  have m0 : ∀ o, w7.frozen? ⟨N7, o, none⟩ = false := fun o => by simp [World.frozen?, HN7.out]
                  simp only at t0 t1 t2 HLA HLB hw7
                  have HKEEP : Hid (∀ w', Below w7.heap.size w7 w' → w'.cell? ⟨N7, 0, none⟩ = some (.int .i64 p1)) := fun w' hb => by
                    have := keep_block HN7.out hb
                    simp [World.cell?, this]
                  go_wp2_with fail
                  refine HLA.out.mono ?_
                  rintro e w8 ⟨rfl, hb⟩
                  have n0' := HKEEP.out w8 hb
                  have HL8 := Lib.hid (HLB.out w8 hb)
                  have HB8 := Lib.hid (HB7.out.trans (hb.mono HB7.out.size))
                  clear hb n0 m0 t0 t1 t2 hw7 hN7
                  go_wp2_with fail
                  refine HL8.out.mono ?_
                  rintro e w9 ⟨rfl, hb⟩
                  have HB9 := Lib.hid (HB8.out.trans (hb.mono HB8.out.size))
                  clear hb n0'
                  go_wp2_with fail
                  go_roundg (nl - (j + 1))
                  case measure => have := HG6.out; omega
                  case rel => exact ⟨j + 1, by omega, rfl, by go_num, HB9.out⟩
                · have hltjz : ¬ (j : Int) < (nl : Int) := by omega
                  have T9 := Lib.hid (T5.out.below HB6.out)
                  go_wp2_with fail
                  go_roundg (n - (i + 1))
                  case measure => have := HG.out; omega
                  case rel => exact ⟨i + 1, _, _, _, _, _, by omega, rfl, by go_num, T9.out⟩

      · have hl7 : ¬ (i : Int) < 20 := by omega
        go_wp2_with fail
        refine (HAW.out _).mono ?_
        rintro e w9 ⟨rfl, hb⟩
        have HB9 := Lib.hid (TT.out.a.below hb)
        clear hb
        go_wp2
        go_ret
        exact ⟨rfl, by rw [HRA.out]; exact HB9.out.bel⟩

    · have hltz : ¬ (i : Int) < (n : Int) := by omega
      go_wp2_with fail
      refine (HAW.out _).mono ?_
      rintro e w9 ⟨rfl, hb⟩
      have HB9 := Lib.hid (TT.out.a.below hb)
      clear hb
      go_wp2
      go_ret
      exact ⟨rfl, by rw [HRA.out]; exact HB9.out.bel⟩

end Go.Proofs.Ytanchjcifhbllaa
