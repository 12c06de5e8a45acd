/-
  The law of all placed: ChainGoes.
  Conditions: the slices read as places, as wants; the numbers are of their kinds.
-/
import Derived.Test.YtajgebcaobknoaaM22
import Derived.Test.YtajgebcaobknoaaM23
import Derived.Test.YtajgebcaobknoaaM03

/-
  The law of all placed: ChainGoes.
  Conditions: the slices read as places, as wants; the numbers are of their kinds.
-/
set_option linter.unusedVariables false
set_option linter.unusedSimpArgs false
namespace Go.Proofs.Ytajgebcaobknoaa
open Go.RowKit

/-- A place's own block is none of its pieces'. -/
theorem plc_not {F : Nat → Prop} {W : World} {R : Nat} {a b c : Int} {u : Value} {T : TypeId} (h : W.heap[R]? = some (.cells #[.int .i64 a, .int .i64 b, .int .i64 c, .slice none 0 0] T (0, 0))) {ps : List Pc} (hp : PcsIn F W u ps) : PcsIn (fun b => F b ∧ b ≠ R) W u ps := by
  obtain ⟨A, d, e, h1, h2, h3⟩ := hp
  refine ⟨A, d, e, h1, h2, fun hn => ?_⟩
  obtain ⟨b', off, e2, hb, hF, hc⟩ := h3 hn
  refine ⟨b', off, e2, hb, ⟨hF, ?_⟩, hc⟩
  rintro rfl
  obtain ⟨y, hy⟩ := exP_at (xs := ps) (k := 0) hn
  obtain ⟨g0, g1⟩ := hc 0 y hy
  have hcell : ∀ o, W.cell? ⟨b', o, none⟩ = (#[.int .i64 a, .int .i64 b, .int .i64 c, .slice none 0 0] : Array Value)[o]? := fun o => by simp [World.cell?, h]
  rw [hcell] at g0 g1
  rcases off with _ | _ | _ | _ | off <;> simp at g0 g1

set_option maxRecDepth 100000 in
set_option maxHeartbeats 8000000 in
theorem goes_law (f : Int) (m : Nat) (v : Value) (l : List Pl) (vw : Value) (ps : List Sp) (w : World) (h : PlsAt w v l) (ho : ∀ x ∈ l, PlOk x) (hm : m < 4294967296) (hv : ArgAt w vw ps) (hi : IntsS ps) :
    Calls Try.prog 4 #[planA f m v, vw] w (RetB (.bool true) w) := by
  have mixed : Try.prog.follows .mixedOrders = true := by kernel_rfl
  have HAW := Lib.hid (fun W => awake_any W)
  obtain ⟨A, cA, rfl, hlc, hcm⟩ := h.form
  obtain ⟨nl, hnl⟩ : ∃ nl, l.length = nl := ⟨_, rfl⟩
  rw [hnl] at h hlc ⊢
  have harg := hv
  obtain ⟨B, d, rfl, hc1, hc2, hnil, _⟩ := hv
  have hs := harg.cut 60 (by decide)
  have hi' := hi.take 60
  have hlq : (ps.take 60).length = min ps.length 60 := by rw [List.length_take, Nat.min_comm]
  have hmn : min (ps.length : Int) 60 = ((min ps.length 60 : Nat) : Int) := by omega
  have hmle : min ps.length 60 ≤ ps.length := Nat.min_le_left _ _
  have hm60 : min ps.length 60 ≤ 60 := Nat.min_le_right _ _
  generalize ps.take 60 = qs at *
  generalize ps.length = n at *
  generalize min n 60 = q at *
  have hmc : (q : Int) ≤ (d : Int) := by omega
  have hm0 : (0 : Int) ≤ (q : Int) := by omega
  have HLQ := Lib.hid hlq
  obtain ⟨w1, P, hw1, hP, hPl, hb1, hbox⟩ := box_any w #[.int .i64 f, .int .u32 m, .slice A nl cA] 25
  have HB1 := Lib.hid hb1
  have HBOX := Lib.hid hbox
  have HH : Hid (∀ W, Below w1.heap.size w1 W → PlsAt W (.slice A nl cA) l) := Lib.hid (fun W hk => h.keep (HB1.out.trans (hk.mono HB1.out.size)))
  have HS : Hid (∀ W, Below w1.heap.size w1 W → SpansAt W (.slice B q d) qs) := Lib.hid (fun W hk => hs.keep (HB1.out.trans (hk.mono HB1.out.size)))
  have HLI := Lib.hid (fun W (hk : Below w1.heap.size w1 W) => calls_iff (light_any f m (.slice A nl cA) l W (HH.out W hk)))
  have HK1 := Lib.hid (Below.refl w1.heap.size w1)
  have HNL := Lib.hid hnl
  obtain ⟨r0, r1, r2⟩ := three_heads hbox
  unfold planA at HLI ⊢
  clear h hb1 hbox harg hi hs hnil hnl hlq
  by_cases hlit : Lit l
  · have hL := hlit.light ho
    have HLY := Lib.hid (fun W hk => (HLI.out W hk).1 hlit)
    have hnl60 : nl ≤ 60 := by rw [← HNL.out]; exact hlit.2
    have HFT := Lib.hid (fun W hk => split_any f m (.slice A nl cA) l (.slice B q d) qs W (HH.out W hk) hL (HS.out W hk) hi' hm (by have := HNL.out; have := HLQ.out; omega))
    have HWY := Lib.hid (fun W hk => refWhyC_any f m (.slice A nl cA) l (.slice B q d) qs W (HH.out W hk) hL (HS.out W hk) hi' hm)
    have HLO := Lib.hid hL
    unfold planA at HFT HWY
    clear HLI hlit hL ho hi'
    go_enter Try.func4, Try.ntmps4
    go_wp2_with fail
    refine (HLY.out _ HK1.out).mono ?_
    rintro e w2 ⟨rfl, hb2⟩
    have HK2 := Lib.hid hb2
    clear hb2 r0 r1 r2 hw1 hP
    obtain ⟨r0, r1, r2⟩ := three_heads (keep_block HBOX.out HK2.out)
    go_wp2_with fail
    refine (HFT.out _ HK2.out).mono ?_
    rintro e w3 ⟨E, hwhy, hb3, hcase⟩
    have HK3 := Lib.hid (HK2.out.trans (hb3.mono HK2.out.size))
    have HWH := Lib.hid hwhy
    clear r0 r1 r2
    obtain ⟨r0, r1, r2⟩ := three_heads (keep_block HBOX.out HK3.out)
    rcases hcase with ⟨hE0, v3, rfl, hpl⟩ | ⟨hE0, rfl⟩
    · subst hE0
      have hg := HWH.out.zero
      have hinv := hg.all
      obtain ⟨Lq, aq, hst⟩ : ∃ Lq aq, chT f m l qs = (Lq, aq) := ⟨_, _, rfl⟩
      rw [hst] at hpl hinv
      simp only at hpl
      have hR : Right f m Lq := hinv.ready.right
      have hlen : Lq.length = nl + q := by have h1 := hinv.len; have h2 := HNL.out; have h3 := HLQ.out; simp only at h1; omega
      have hLq : LightL Lq := ⟨by omega, hinv.ok HLO.out.ok⟩
      obtain ⟨A3, d3, hv3, _, _⟩ := hpl.form
      obtain ⟨n3, hn3⟩ : ∃ n3, Lq.length = n3 := ⟨_, rfl⟩
      have HN3 := Lib.hid hn3
      rw [hn3] at hv3 hlen
      subst hv3
      obtain ⟨w4, Q, hw4, hQ, hQl, hb4, hqb⟩ := box_any w3 #[.int .i64 0, .int .u32 0, .slice none 0 0] 25
      have HQB := Lib.hid hqb
      obtain ⟨w5, hw5⟩ : ∃ w5, w4.setRow Q #[.int .i64 f, .int .u32 m, .slice A3 n3 d3] = w5 := ⟨_, rfl⟩
      have hb5 : Below w3.heap.size w3 w5 := by rw [← hw5]; exact below_row hb4 (by omega) _
      have HK5 := Lib.hid (HK3.out.trans (hb5.mono HK3.out.size))
      have HW5 := Lib.hid (HB1.out.trans (HK5.out.mono HB1.out.size))
      have HQ5 : Hid (w5.heap[Q]? = some (.cells #[.int .i64 f, .int .u32 m, .slice A3 n3 d3] 25 (0, 0))) := Lib.hid (by rw [← hw5]; exact setRow_heap _ _ _ _ _ _ hqb)
      have HQC : Hid (∀ W, Below w5.heap.size w5 W → W.cell? ⟨Q, 0, none⟩ = some (.int .i64 f) ∧ W.cell? ⟨Q, 1, none⟩ = some (.int .u32 m) ∧ W.cell? ⟨Q, 2, none⟩ = some (.slice A3 n3 d3)) := Lib.hid (fun W hk => three_heads (keep_block HQ5.out hk))
      have HPC : Hid (∀ W, Below w5.heap.size w5 W → W.cell? ⟨P, 0, none⟩ = some (.int .i64 f) ∧ W.cell? ⟨P, 1, none⟩ = some (.int .u32 m) ∧ W.cell? ⟨P, 2, none⟩ = some (.slice A nl cA)) := Lib.hid (fun W hk => three_heads (keep_block HBOX.out (HK5.out.trans (hk.mono HK5.out.size))))
      have HPQ : Hid (∀ W, Below w5.heap.size w5 W → PlsAt W (.slice A3 n3 d3) Lq) := Lib.hid (fun W hk => (hpl.any.keep hb5).keep hk)
      have HH5 : Hid (∀ W, Below w5.heap.size w5 W → PlsAt W (.slice A nl cA) l) := Lib.hid (fun W hk => HH.out W (HK5.out.trans (hk.mono HK5.out.size)))
      have HS5 : Hid (∀ W, Below w5.heap.size w5 W → SpansAt W (.slice B q d) qs) := Lib.hid (fun W hk => HS.out W (HK5.out.trans (hk.mono HK5.out.size)))
      have HK50 := Lib.hid (Below.refl w5.heap.size w5)
      have HRQ := Lib.hid (fun W hk => (calls_iff (right_any f m (.slice A3 n3 d3) Lq W (HPQ.out W hk) hLq hm)).1 hR)
      have HFD0 := Lib.hid (fun u W hk => refFind_any f m (.slice A3 n3 d3) Lq u W (HPQ.out W hk) (by have := hLq.len; omega))
      have HSPL := Lib.hid (fun W hk => refSplits_any f m (.slice A3 n3 d3) Lq W (HPQ.out W hk) (by have := hLq.len; omega))
      have HCOR := Lib.hid (fun (W : World) (_ : Below w5.heap.size w5 W) => refCores_any f m (.slice A3 n3 d3) W hm)
      have HFN : Hid (∀ z ∈ l, findU Lq z.u = some z) := Lib.hid (fun z hz => hR.found (hinv.keep z hz))
      have HGT : Hid (∀ y ∈ qs, ∃ z, findU Lq y.1 = some z ∧ z.s = y.2) := Lib.hid (fun y hy => by
        obtain ⟨z, h1, h2, h3⟩ := hinv.got y hy
        exact ⟨z, by rw [← h2]; exact hR.found h1, h3⟩)
      obtain ⟨sp, hsp⟩ : ∃ sp, splitsN Lq = sp := ⟨_, rfl⟩
      obtain ⟨nc, hnc⟩ : ∃ nc, (ticksI m 16).length = nc := ⟨_, rfl⟩
      have HSN := Lib.hid hsp
      have HNC := Lib.hid hnc
      have hfew : (sp : Int) < (nc : Int) := by
        have h1 := hR.few
        rw [ticksI_length] at hnc
        unfold coresN at h1
        omega
      have hfd : decide ((sp : Int) < (nc : Int)) = true := decide_eq_true hfew
      have e0 : ((n3 : Int) != ((nl : Int) + (q : Int))) = false := by simp; omega
      unfold planA at HRQ HFD0 HSPL HCOR
      unfold RetFind at HFD0
      clear hsp hnc
      have HLEN := Lib.hid hlen
      have hn3b : n3 ≤ 200 := by omega
      clear hpl hb3 hb4 hb5 hqb hinv hst hR hLq hg hn3 r0 r1 r2 hwhy hlen
      unfold planA
      obtain ⟨q0, q1, q2⟩ := HQC.out _ HK50.out
      obtain ⟨r0, r1, r2⟩ := HPC.out _ HK50.out
      go_wp2_with (refine wpList_store_row rfl _ _ _ rfl Q #[.int .i64 f, .int .u32 m, .slice A3 n3 d3] rfl rfl 25 _ HQB.out (Try.sizePn _ _ _) rfl (one3 _ _ _ _ _) ?_)
      refine (HRQ.out _ HK50.out).mono ?_
      rintro e w6 ⟨rfl, hb6⟩
      have HK6 := Lib.hid hb6
      clear hb6 q0 q1 q2 r0 r1 r2 hw5 hw4 hQ
      obtain ⟨q0, q1, q2⟩ := HQC.out _ HK6.out
      obtain ⟨r0, r1, r2⟩ := HPC.out _ HK6.out
      go_wp2_with fail
      clear q0 q1 q2 r0 r1 r2
      go_loopg [7, 8, 9] q (fun gg s7 _ _ wr => ∃ i : Nat, i ≤ q ∧ gg = q - i ∧ s7 = .int .i64 i ∧ Below w5.heap.size w5 wr)
      case atStart => exact ⟨0, Nat.zero_le _, by omega, rfl, HK6.out⟩
      case round =>
        obtain ⟨i, hin, hgg, rfl, hbw⟩ := hrel
        have HG := Lib.hid hgg
        have HBW := Lib.hid hbw
        obtain ⟨wo, rfl⟩ : ∃ wo : World, wo = wr := ⟨_, rfl⟩
        by_cases hlt : i < q
        · have hltz : (i : Int) < (q : Int) := by omega
          have hi0 : (0 : Int) ≤ (i : Int) := by omega
          obtain ⟨y, hy⟩ := ex_at (xs := qs) (k := i) (by rw [HLQ.out]; exact hlt)
          obtain ⟨z, hfz, hzs⟩ := HGT.out y (List.mem_of_getElem? hy)
          obtain ⟨A', c', hs1, hs2, hs3, hs4, hs5⟩ := HS5.out _ HK50.out
          injection hs1 with t1 t2 t3
          subst t1 t3
          obtain ⟨bl, ol, hA, hbl, hcell⟩ := hs5 (by rw [HLQ.out]; omega)
          subst hA
          have HYC0 := Lib.hid (fun W (hk : Below w5.heap.size w5 W) => (hcell i y hy).keep hk hbl)
          obtain ⟨y1, y2⟩ := y
          simp only at hfz hzs HYC0
          have HZS := Lib.hid hzs
          have HYC : Hid (∀ W, Below w5.heap.size w5 W → W.cell? ⟨bl, ol + i * 2, none⟩ = some (.int .i64 y1) ∧ W.cell? ⟨bl, ol + i * 2 + 1, none⟩ = some (.int .i64 y2)) := Lib.hid (fun W hk => HYC0.out W hk)
          have HSF : Hid (∀ W, Below w5.heap.size w5 W → W.cell? ⟨Q, 0, none⟩ = some (.int .i64 f) ∧ W.cell? ⟨Q, 1, none⟩ = some (.int .u32 m) ∧ W.cell? ⟨Q, 2, none⟩ = some (.slice A3 n3 d3) ∧ W.cell? ⟨bl, ol + i * 2, none⟩ = some (.int .i64 y1) ∧ W.cell? ⟨bl, ol + i * 2 + 1, none⟩ = some (.int .i64 y2)) := Lib.hid (fun W hk => by
            obtain ⟨a0, a1, a2⟩ := HQC.out W hk
            exact ⟨a0, a1, a2, HYC.out W hk⟩)
          have HFD := Lib.hid (fun W hk => HFD0.out y1 W hk)
          rw [hfz] at HFD
          simp only [Option.getD, Option.isSome] at HFD
          have hkd := HBW.out.drew
          clear hgg hbw hcell hy hfz hzs HYC0 hs2 hs3 hs4 hs5 t2
          go_wp2_with fail
          as_aux_lemma =>
            refine wp_region_held_drew (S := fun w' => w'.cell? ⟨Q, 0, none⟩ = some (.int .i64 f) ∧ w'.cell? ⟨Q, 1, none⟩ = some (.int .u32 m) ∧ w'.cell? ⟨Q, 2, none⟩ = some (.slice A3 n3 d3) ∧ w'.cell? ⟨bl, ol + i * 2, none⟩ = some (.int .i64 y1) ∧ w'.cell? ⟨bl, ol + i * 2 + 1, none⟩ = some (.int .i64 y2)) (by kernel_rfl) ?_ (fun hHeld => ?_)
            · exact HSF.out _ hkd
            refine wpAnyH_take (i := 0) (oi := ⟨some 59, _, _, _, _, _⟩) (v := ?_) rfl (by kernel_rfl) (by kernel_rfl) (by kernel_rfl) (fun _ _ _ h => h) (Or.inl ⟨by kernel_rfl, ?_⟩) (by assumption) ?_
            rotate_left
            · (intro w hSw; (try dsimp only at hSw); go_simp; try with_reducible rfl)
            (try simp only [Act.put, List.setIfInBounds_toArray, List.set_cons_zero, List.set_cons_succ])
            refine wpAnyH_take (i := 1) (oi := ⟨some 60, _, _, _, _, _⟩) (v := ?_) rfl (by kernel_rfl) (by kernel_rfl) (by kernel_rfl) (fun _ _ _ h => h) (Or.inl ⟨by kernel_rfl, ?_⟩) (by assumption) ?_
            rotate_left
            · (intro w hSw; (try dsimp only at hSw); go_simp; try with_reducible rfl)
            (try simp only [Act.put, List.setIfInBounds_toArray, List.set_cons_zero, List.set_cons_succ])
            refine wpAnyH_take (i := 2) (oi := ⟨some 61, _, _, _, _, _⟩) (v := ?_) rfl (by kernel_rfl) (by kernel_rfl) (by kernel_rfl) (fun _ _ _ h => h) (Or.inl ⟨by kernel_rfl, ?_⟩) (by assumption) ?_
            rotate_left
            · (intro w hSw; (try dsimp only at hSw); go_simp; try with_reducible rfl)
            (try simp only [Act.put, List.setIfInBounds_toArray, List.set_cons_zero, List.set_cons_succ])
            refine wpAnyH_take (i := 3) (oi := ⟨some 62, _, _, _, _, _⟩) (v := ?_) rfl (by kernel_rfl) (by kernel_rfl) (by kernel_rfl) (fun _ _ _ h => h) (Or.inl ⟨by kernel_rfl, ?_⟩) (by assumption) ?_
            rotate_left
            · (intro w hSw; (try dsimp only at hSw); go_simp; try with_reducible rfl)
            (try simp only [Act.put, List.setIfInBounds_toArray, List.set_cons_zero, List.set_cons_succ])
            refine wpAnyH_take (i := 4) (oi := ⟨some 63, _, _, _, _, _⟩) (v := ?_) rfl (by kernel_rfl) (by kernel_rfl) (by kernel_rfl) (fun _ _ _ h => h) (Or.inl ⟨by kernel_rfl, ?_⟩) (by assumption) ?_
            rotate_left
            · (intro w hSw; (try dsimp only at hSw); go_simp; try with_reducible rfl)
            (try simp only [Act.put, List.setIfInBounds_toArray, List.set_cons_zero, List.set_cons_succ])
            refine wpAnyH_take (i := 5) (oi := ⟨some 64, _, _, _, _, _⟩) (v := ?_) rfl (by kernel_rfl) (by kernel_rfl) (by kernel_rfl) (fun _ _ _ h => h) (Or.inl ⟨by kernel_rfl, ?_⟩) (by assumption) ?_
            rotate_left
            · (intro w hSw; (try dsimp only at hSw); go_simp; try with_reducible rfl)
            (try simp only [Act.put, List.setIfInBounds_toArray, List.set_cons_zero, List.set_cons_succ])
            refine wpAnyH_ready (rs := [6, 10]) (by kernel_rfl) (by simp) ?_
            refine AllReadyH.cons (o := ⟨some 65, _, _, _, _, _⟩) rfl (fun K hK => ?_) (AllReadyH.cons (o := ⟨some 8, _, _, _, _, _⟩) rfl (fun K hK => ?_) AllReadyH.nil)
            · rw [if_pos (by kernel_rfl)]
              go_simp
              go_at_call 16; refine (HFD.out _ hkd).mono ?_; rintro e wx1 ⟨vq, rfl, hps, hbx1⟩; unfold plA
              obtain ⟨Aq, dq, rfl⟩ := hps.form
              have hkx1 := hkd.trans (hbx1.mono hkd.size)
              refine hK.out _ _ ?_ (fun hHeld => ?_)
              · exact HSF.out _ hkx1
              clear hK K
              (try simp only [Act.put, List.setIfInBounds_toArray, List.set_cons_zero, List.set_cons_succ])
              refine wpAnyH_take (i := 7) (oi := ⟨some 58, _, _, _, _, _⟩) (v := ?_) rfl (by kernel_rfl) (by kernel_rfl) (by kernel_rfl) (fun _ _ _ h => h) (Or.inl ⟨by kernel_rfl, ?_⟩) (by assumption) ?_
              rotate_left
              · (intro w hSw; (try dsimp only at hSw); go_simp; try with_reducible rfl)
              (try simp only [Act.put, List.setIfInBounds_toArray, List.set_cons_zero, List.set_cons_succ])
              refine wpAnyH_take (i := 8) (oi := ⟨some 66, _, _, _, _, _⟩) (v := ?_) rfl (by kernel_rfl) (by kernel_rfl) (by kernel_rfl) (fun _ _ _ h => h) (Or.inl ⟨by kernel_rfl, ?_⟩) (by assumption) ?_
              rotate_left
              · (intro w hSw; (try dsimp only at hSw); go_simp; try with_reducible rfl)
              (try simp only [Act.put, List.setIfInBounds_toArray, List.set_cons_zero, List.set_cons_succ])
              refine wpAnyH_take (i := 9) (oi := ⟨some 67, _, _, _, _, _⟩) (v := ?_) rfl (by kernel_rfl) (by kernel_rfl) (by kernel_rfl) (fun _ _ _ h => h) (Or.inl ⟨by kernel_rfl, ?_⟩) (by assumption) ?_
              rotate_left
              · (intro w hSw; (try dsimp only at hSw); go_simp; try with_reducible rfl)
              (try simp only [Act.put, List.setIfInBounds_toArray, List.set_cons_zero, List.set_cons_succ])
              refine wpAnyH_ready (rs := [10]) (by kernel_rfl) (by simp) ?_
              refine AllReadyH.cons (o := ⟨some 8, _, _, _, _, _⟩) rfl (fun K hK => ?_) AllReadyH.nil
              obtain ⟨wx2, Q1, hw2, hQ2, hQl, hbx2, hq⟩ := box_any wx1 #[.int .i64 0, .int .i64 0, .int .i64 0, .slice none 0 0] 41
              have hkx2 := hkx1.trans (hbx2.mono hkx1.size)
              have hQw : w5.heap.size ≤ Q1 := by have := hkx1.size; omega
              have hps := hps.keep hbx2
              rw [if_pos (by kernel_rfl)]
              go_simp
              refine hK.out _ _ ?_ (fun hHeld => ?_)
              · exact HSF.out _ hkx2
              clear hK K
              (try simp only [Act.put, List.setIfInBounds_toArray, List.set_cons_zero, List.set_cons_succ])
              clear hw2 hQ2
              refine wpAnyH_ready (rs := [11]) (by kernel_rfl) (by simp) ?_
              refine AllReadyH.cons (o := ⟨none, _, _, _, _, _⟩) rfl (fun K hK => ?_) AllReadyH.nil
              refine step_store_row16 rfl _ _ _ rfl Q1 #[.int .i64 z.u, .int .i64 z.s, .int .i64 z.c, .slice Aq z.ps.length dq] (by simp [Act.eval, Act.put]) (by simp [Act.eval, Act.put]) 41 _ hq (Try.sizePl _ _ _ _) rfl (one4 _ _ _ _ _ _) ?_
              have hkz := below_row hkx2 hQw #[.int .i64 z.u, .int .i64 z.s, .int .i64 z.c, .slice Aq z.ps.length dq]
              refine hK.out _ _ ?_ (fun hHeld => ?_)
              · exact HSF.out _ hkz
              clear hK K
              (try simp only [Act.put, List.setIfInBounds_toArray, List.set_cons_zero, List.set_cons_succ])
              refine wpAnyH_take (i := 12) (oi := ⟨some 9, _, _, _, _, _⟩) (v := ?_) rfl (by kernel_rfl) (by kernel_rfl) (by kernel_rfl) (fun _ _ _ h => h) (Or.inl ⟨by kernel_rfl, ?_⟩) (by assumption) ?_
              rotate_left
              · (intro w hSw; (try dsimp only at hSw); go_simp; try with_reducible rfl)
              (try simp only [Act.put, List.setIfInBounds_toArray, List.set_cons_zero, List.set_cons_succ])
              refine wpAnyH_done (by kernel_rfl) ?_ _
              obtain ⟨wz, hwz⟩ : ∃ wz, (wx2).setRow Q1 #[.int .i64 z.u, .int .i64 z.s, .int .i64 z.c, .slice Aq z.ps.length dq] = wz := ⟨_, rfl⟩
              have hq1 : wz.heap[Q1]? = some (.cells #[.int .i64 z.u, .int .i64 z.s, .int .i64 z.c, .slice Aq z.ps.length dq] 41 (0, 0)) := by rw [← hwz]; exact setRow_heap _ _ _ _ _ _ hq
              rw [hwz] at hkz ⊢
              have HKZ := Lib.hid hkz
              obtain ⟨e0, e1, e2, e3⟩ := four_heads hq1
              rw [HZS.out] at e1
              obtain ⟨g1, g2⟩ := HYC.out _ hkz
              clear hHeld hkz hq hps hq1 hwz
              go_wp2_with fail
              go_quiet (fail)
              have HKY := Lib.hid (below_drewN HKZ.out nq)
              generalize wz.drewN nq = wy at *
              clear e0 e1 e2 e3 g1 g2
              go_wp2_with fail
              go_roundg (q - (i + 1))
              case measure => have := HG.out; omega
              case rel => exact ⟨i + 1, by omega, rfl, by go_num, HKY.out⟩
            · obtain ⟨wx4, Q1, hw4, hQ4, hQl, hbx4, hq⟩ := box_any wo.drew #[.int .i64 0, .int .i64 0, .int .i64 0, .slice none 0 0] 41
              have hkx4 := hkd.trans (hbx4.mono hkd.size)
              have hQw : w5.heap.size ≤ Q1 := by have := hkd.size; omega
              rw [if_pos (by kernel_rfl)]
              go_simp
              refine hK.out _ _ ?_ (fun hHeld => ?_)
              · exact HSF.out _ hkx4
              clear hK K
              (try simp only [Act.put, List.setIfInBounds_toArray, List.set_cons_zero, List.set_cons_succ])
              clear hw4 hQ4
              refine wpAnyH_ready (rs := [6]) (by kernel_rfl) (by simp) ?_
              refine AllReadyH.cons (o := ⟨some 65, _, _, _, _, _⟩) rfl (fun K hK => ?_) AllReadyH.nil
              rw [if_pos (by kernel_rfl)]
              go_simp
              go_at_call 16; refine (HFD.out _ hkx4).mono ?_; rintro e wx5 ⟨vq, rfl, hps, hbx5⟩; unfold plA
              obtain ⟨Aq, dq, rfl⟩ := hps.form
              have hkx5 := hkx4.trans (hbx5.mono hkx4.size)
              have hq := keep_block hq hbx5
              refine hK.out _ _ ?_ (fun hHeld => ?_)
              · exact HSF.out _ hkx5
              clear hK K
              (try simp only [Act.put, List.setIfInBounds_toArray, List.set_cons_zero, List.set_cons_succ])
              refine wpAnyH_take (i := 7) (oi := ⟨some 58, _, _, _, _, _⟩) (v := ?_) rfl (by kernel_rfl) (by kernel_rfl) (by kernel_rfl) (fun _ _ _ h => h) (Or.inl ⟨by kernel_rfl, ?_⟩) (by assumption) ?_
              rotate_left
              · (intro w hSw; (try dsimp only at hSw); go_simp; try with_reducible rfl)
              (try simp only [Act.put, List.setIfInBounds_toArray, List.set_cons_zero, List.set_cons_succ])
              refine wpAnyH_take (i := 8) (oi := ⟨some 66, _, _, _, _, _⟩) (v := ?_) rfl (by kernel_rfl) (by kernel_rfl) (by kernel_rfl) (fun _ _ _ h => h) (Or.inl ⟨by kernel_rfl, ?_⟩) (by assumption) ?_
              rotate_left
              · (intro w hSw; (try dsimp only at hSw); go_simp; try with_reducible rfl)
              (try simp only [Act.put, List.setIfInBounds_toArray, List.set_cons_zero, List.set_cons_succ])
              refine wpAnyH_take (i := 9) (oi := ⟨some 67, _, _, _, _, _⟩) (v := ?_) rfl (by kernel_rfl) (by kernel_rfl) (by kernel_rfl) (fun _ _ _ h => h) (Or.inl ⟨by kernel_rfl, ?_⟩) (by assumption) ?_
              rotate_left
              · (intro w hSw; (try dsimp only at hSw); go_simp; try with_reducible rfl)
              (try simp only [Act.put, List.setIfInBounds_toArray, List.set_cons_zero, List.set_cons_succ])
              refine wpAnyH_ready (rs := [11]) (by kernel_rfl) (by simp) ?_
              refine AllReadyH.cons (o := ⟨none, _, _, _, _, _⟩) rfl (fun K hK => ?_) AllReadyH.nil
              refine step_store_row16 rfl _ _ _ rfl Q1 #[.int .i64 z.u, .int .i64 z.s, .int .i64 z.c, .slice Aq z.ps.length dq] (by simp [Act.eval, Act.put]) (by simp [Act.eval, Act.put]) 41 _ hq (Try.sizePl _ _ _ _) rfl (one4 _ _ _ _ _ _) ?_
              have hkz := below_row hkx5 hQw #[.int .i64 z.u, .int .i64 z.s, .int .i64 z.c, .slice Aq z.ps.length dq]
              refine hK.out _ _ ?_ (fun hHeld => ?_)
              · exact HSF.out _ hkz
              clear hK K
              (try simp only [Act.put, List.setIfInBounds_toArray, List.set_cons_zero, List.set_cons_succ])
              refine wpAnyH_take (i := 12) (oi := ⟨some 9, _, _, _, _, _⟩) (v := ?_) rfl (by kernel_rfl) (by kernel_rfl) (by kernel_rfl) (fun _ _ _ h => h) (Or.inl ⟨by kernel_rfl, ?_⟩) (by assumption) ?_
              rotate_left
              · (intro w hSw; (try dsimp only at hSw); go_simp; try with_reducible rfl)
              (try simp only [Act.put, List.setIfInBounds_toArray, List.set_cons_zero, List.set_cons_succ])
              refine wpAnyH_done (by kernel_rfl) ?_ _
              obtain ⟨wz, hwz⟩ : ∃ wz, (wx5).setRow Q1 #[.int .i64 z.u, .int .i64 z.s, .int .i64 z.c, .slice Aq z.ps.length dq] = wz := ⟨_, rfl⟩
              have hq1 : wz.heap[Q1]? = some (.cells #[.int .i64 z.u, .int .i64 z.s, .int .i64 z.c, .slice Aq z.ps.length dq] 41 (0, 0)) := by rw [← hwz]; exact setRow_heap _ _ _ _ _ _ hq
              rw [hwz] at hkz ⊢
              have HKZ := Lib.hid hkz
              obtain ⟨e0, e1, e2, e3⟩ := four_heads hq1
              rw [HZS.out] at e1
              obtain ⟨g1, g2⟩ := HYC.out _ hkz
              clear hHeld hkz hq hps hq1 hwz
              go_wp2_with fail
              go_quiet (fail)
              have HKY := Lib.hid (below_drewN HKZ.out nq)
              generalize wz.drewN nq = wy at *
              clear e0 e1 e2 e3 g1 g2
              go_wp2_with fail
              go_roundg (q - (i + 1))
              case measure => have := HG.out; omega
              case rel => exact ⟨i + 1, by omega, rfl, by go_num, HKY.out⟩
        · have hltz : ¬ (i : Int) < (q : Int) := by omega
          clear hgg hbw
          obtain ⟨r0, r1, r2⟩ := HPC.out _ HBW.out
          go_wp2_with fail
          clear r0 r1 r2 hlt hltz hin HG
          have HBW1 := Lib.hid HBW.out
          clear HBW
          go_loopg [10, 11, 12] nl (fun gg s10 _ _ wr => ∃ i : Nat, i ≤ nl ∧ gg = nl - i ∧ s10 = .int .i64 i ∧ Below w5.heap.size w5 wr)
          case atStart => exact ⟨0, Nat.zero_le _, by omega, rfl, HBW1.out⟩
          case round =>
            obtain ⟨i, hin, hgg, rfl, hbw⟩ := hrel
            have HG := Lib.hid hgg
            have HBW := Lib.hid hbw
            obtain ⟨wo, rfl⟩ : ∃ wo : World, wo = wr := ⟨_, rfl⟩
            obtain ⟨r0, r1, r2⟩ := HPC.out _ HBW.out
            by_cases hlt : i < nl
            · have hltz : (i : Int) < (nl : Int) := by omega
              have hi0 : (0 : Int) ≤ (i : Int) := by omega
              obtain ⟨z, hz⟩ := exP_at (xs := l) (k := i) (by rw [HNL.out]; exact hlt)
              obtain ⟨bp, op, Bp, dp, hA, hbp, _, hzc, hzp⟩ := (HH5.out _ HK50.out).at_ hz
              subst hA
              have HZC : Hid (∀ W, Below w5.heap.size w5 W → W.cell? ⟨bp, op + i * 4, none⟩ = some (.int .i64 z.u) ∧ W.cell? ⟨bp, op + i * 4 + 1, none⟩ = some (.int .i64 z.s) ∧ W.cell? ⟨bp, op + i * 4 + 2, none⟩ = some (.int .i64 z.c) ∧ W.cell? ⟨bp, op + i * 4 + 3, none⟩ = some (.slice Bp z.ps.length dp)) := Lib.hid (fun W hk => hzc.keep (hk.block bp hbp))
              have HZP : Hid (∀ W, Below w5.heap.size w5 W → PcsAt W (.slice Bp z.ps.length dp) z.ps) := Lib.hid (fun W hk => hzp.keep hk)
              have HSF : Hid (∀ W, Below w5.heap.size w5 W → W.cell? ⟨Q, 0, none⟩ = some (.int .i64 f) ∧ W.cell? ⟨Q, 1, none⟩ = some (.int .u32 m) ∧ W.cell? ⟨Q, 2, none⟩ = some (.slice A3 n3 d3) ∧ W.cell? ⟨P, 2, none⟩ = some (.slice (some ⟨bp, op, none⟩) nl cA) ∧ W.cell? ⟨bp, op + i * 4, none⟩ = some (.int .i64 z.u)) := Lib.hid (fun W hk => by
                obtain ⟨a0, a1, a2⟩ := HQC.out W hk
                exact ⟨a0, a1, a2, (HPC.out W hk).2.2, (HZC.out W hk).1⟩)
              have HFD := Lib.hid (fun W hk => HFD0.out z.u W hk)
              rw [HFN.out z (List.mem_of_getElem? hz)] at HFD
              simp only [Option.getD, Option.isSome] at HFD
              have hkd := HBW.out.drew
              clear hgg hbw hz hzc hzp
              go_wp2_with fail
              clear r0 r1 r2
              as_aux_lemma =>
                refine wp_region_held_drew (S := fun w' => w'.cell? ⟨Q, 0, none⟩ = some (.int .i64 f) ∧ w'.cell? ⟨Q, 1, none⟩ = some (.int .u32 m) ∧ w'.cell? ⟨Q, 2, none⟩ = some (.slice A3 n3 d3) ∧ w'.cell? ⟨P, 2, none⟩ = some (.slice (some ⟨bp, op, none⟩) nl cA) ∧ w'.cell? ⟨bp, op + i * 4, none⟩ = some (.int .i64 z.u)) (by kernel_rfl) ?_ (fun hHeld => ?_)
                · exact HSF.out _ hkd
                refine wpAnyH_take (i := 0) (oi := ⟨some 88, _, _, _, _, _⟩) (v := ?_) rfl (by kernel_rfl) (by kernel_rfl) (by kernel_rfl) (fun _ _ _ h => h) (Or.inl ⟨by kernel_rfl, ?_⟩) (by assumption) ?_
                rotate_left
                · (intro w hSw; (try dsimp only at hSw); go_simp; try with_reducible rfl)
                (try simp only [Act.put, List.setIfInBounds_toArray, List.set_cons_zero, List.set_cons_succ])
                refine wpAnyH_take (i := 1) (oi := ⟨some 89, _, _, _, _, _⟩) (v := ?_) rfl (by kernel_rfl) (by kernel_rfl) (by kernel_rfl) (fun _ _ _ h => h) (Or.inl ⟨by kernel_rfl, ?_⟩) (by assumption) ?_
                rotate_left
                · (intro w hSw; (try dsimp only at hSw); go_simp; try with_reducible rfl)
                (try simp only [Act.put, List.setIfInBounds_toArray, List.set_cons_zero, List.set_cons_succ])
                refine wpAnyH_take (i := 2) (oi := ⟨some 90, _, _, _, _, _⟩) (v := ?_) rfl (by kernel_rfl) (by kernel_rfl) (by kernel_rfl) (fun _ _ _ h => h) (Or.inl ⟨by kernel_rfl, ?_⟩) (by assumption) ?_
                rotate_left
                · (intro w hSw; (try dsimp only at hSw); go_simp; try with_reducible rfl)
                (try simp only [Act.put, List.setIfInBounds_toArray, List.set_cons_zero, List.set_cons_succ])
                refine wpAnyH_take (i := 3) (oi := ⟨some 91, _, _, _, _, _⟩) (v := ?_) rfl (by kernel_rfl) (by kernel_rfl) (by kernel_rfl) (fun _ _ _ h => h) (Or.inl ⟨by kernel_rfl, ?_⟩) (by assumption) ?_
                rotate_left
                · (intro w hSw; (try dsimp only at hSw); go_simp; try with_reducible rfl)
                (try simp only [Act.put, List.setIfInBounds_toArray, List.set_cons_zero, List.set_cons_succ])
                refine wpAnyH_take (i := 4) (oi := ⟨some 92, _, _, _, _, _⟩) (v := ?_) rfl (by kernel_rfl) (by kernel_rfl) (by kernel_rfl) (fun _ _ _ h => h) (Or.inl ⟨by kernel_rfl, ?_⟩) (by assumption) ?_
                rotate_left
                · (intro w hSw; (try dsimp only at hSw); go_simp; try with_reducible rfl)
                (try simp only [Act.put, List.setIfInBounds_toArray, List.set_cons_zero, List.set_cons_succ])
                refine wpAnyH_take (i := 5) (oi := ⟨some 93, _, _, _, _, _⟩) (v := ?_) rfl (by kernel_rfl) (by kernel_rfl) (by kernel_rfl) (fun _ _ _ h => h) (Or.inl ⟨by kernel_rfl, ?_⟩) (by assumption) ?_
                rotate_left
                · (intro w hSw; (try dsimp only at hSw); go_simp; try with_reducible rfl)
                (try simp only [Act.put, List.setIfInBounds_toArray, List.set_cons_zero, List.set_cons_succ])
                refine wpAnyH_take (i := 6) (oi := ⟨some 94, _, _, _, _, _⟩) (v := ?_) rfl (by kernel_rfl) (by kernel_rfl) (by kernel_rfl) (fun _ _ _ h => h) (Or.inl ⟨by kernel_rfl, ?_⟩) (by assumption) ?_
                rotate_left
                · (intro w hSw; (try dsimp only at hSw); go_simp; try with_reducible rfl)
                (try simp only [Act.put, List.setIfInBounds_toArray, List.set_cons_zero, List.set_cons_succ])
                refine wpAnyH_ready (rs := [7, 11]) (by kernel_rfl) (by simp) ?_
                refine AllReadyH.cons (o := ⟨some 95, _, _, _, _, _⟩) rfl (fun K hK => ?_) (AllReadyH.cons (o := ⟨some 11, _, _, _, _, _⟩) rfl (fun K hK => ?_) AllReadyH.nil)
                · rw [if_pos (by kernel_rfl)]
                  go_simp
                  go_at_call 16; refine (HFD.out _ hkd).mono ?_; rintro e wx1 ⟨vq, rfl, hps, hbx1⟩; unfold plA
                  obtain ⟨Aq, dq, rfl⟩ := hps.form
                  have hkx1 := hkd.trans (hbx1.mono hkd.size)
                  refine hK.out _ _ ?_ (fun hHeld => ?_)
                  · exact HSF.out _ hkx1
                  clear hK K
                  (try simp only [Act.put, List.setIfInBounds_toArray, List.set_cons_zero, List.set_cons_succ])
                  refine wpAnyH_take (i := 8) (oi := ⟨some 87, _, _, _, _, _⟩) (v := ?_) rfl (by kernel_rfl) (by kernel_rfl) (by kernel_rfl) (fun _ _ _ h => h) (Or.inl ⟨by kernel_rfl, ?_⟩) (by assumption) ?_
                  rotate_left
                  · (intro w hSw; (try dsimp only at hSw); go_simp; try with_reducible rfl)
                  (try simp only [Act.put, List.setIfInBounds_toArray, List.set_cons_zero, List.set_cons_succ])
                  refine wpAnyH_take (i := 9) (oi := ⟨some 96, _, _, _, _, _⟩) (v := ?_) rfl (by kernel_rfl) (by kernel_rfl) (by kernel_rfl) (fun _ _ _ h => h) (Or.inl ⟨by kernel_rfl, ?_⟩) (by assumption) ?_
                  rotate_left
                  · (intro w hSw; (try dsimp only at hSw); go_simp; try with_reducible rfl)
                  (try simp only [Act.put, List.setIfInBounds_toArray, List.set_cons_zero, List.set_cons_succ])
                  refine wpAnyH_take (i := 10) (oi := ⟨some 97, _, _, _, _, _⟩) (v := ?_) rfl (by kernel_rfl) (by kernel_rfl) (by kernel_rfl) (fun _ _ _ h => h) (Or.inl ⟨by kernel_rfl, ?_⟩) (by assumption) ?_
                  rotate_left
                  · (intro w hSw; (try dsimp only at hSw); go_simp; try with_reducible rfl)
                  (try simp only [Act.put, List.setIfInBounds_toArray, List.set_cons_zero, List.set_cons_succ])
                  refine wpAnyH_ready (rs := [11]) (by kernel_rfl) (by simp) ?_
                  refine AllReadyH.cons (o := ⟨some 11, _, _, _, _, _⟩) rfl (fun K hK => ?_) AllReadyH.nil
                  obtain ⟨wx2, Q1, hw2, hQ2, hQl, hbx2, hq⟩ := box_any wx1 #[.int .i64 0, .int .i64 0, .int .i64 0, .slice none 0 0] 41
                  have hkx2 := hkx1.trans (hbx2.mono hkx1.size)
                  have hQw : w5.heap.size ≤ Q1 := by have := hkx1.size; omega
                  have hps := hps.keep hbx2
                  rw [if_pos (by kernel_rfl)]
                  go_simp
                  refine hK.out _ _ ?_ (fun hHeld => ?_)
                  · exact HSF.out _ hkx2
                  clear hK K
                  (try simp only [Act.put, List.setIfInBounds_toArray, List.set_cons_zero, List.set_cons_succ])
                  clear hw2 hQ2
                  refine wpAnyH_ready (rs := [12]) (by kernel_rfl) (by simp) ?_
                  refine AllReadyH.cons (o := ⟨none, _, _, _, _, _⟩) rfl (fun K hK => ?_) AllReadyH.nil
                  refine step_store_row16 rfl _ _ _ rfl Q1 #[.int .i64 z.u, .int .i64 z.s, .int .i64 z.c, .slice Aq z.ps.length dq] (by simp [Act.eval, Act.put]) (by simp [Act.eval, Act.put]) 41 _ hq (Try.sizePl _ _ _ _) rfl (one4 _ _ _ _ _ _) ?_
                  have hkz := below_row hkx2 hQw #[.int .i64 z.u, .int .i64 z.s, .int .i64 z.c, .slice Aq z.ps.length dq]
                  refine hK.out _ _ ?_ (fun hHeld => ?_)
                  · exact HSF.out _ hkz
                  clear hK K
                  (try simp only [Act.put, List.setIfInBounds_toArray, List.set_cons_zero, List.set_cons_succ])
                  refine wpAnyH_take (i := 13) (oi := ⟨some 12, _, _, _, _, _⟩) (v := ?_) rfl (by kernel_rfl) (by kernel_rfl) (by kernel_rfl) (fun _ _ _ h => h) (Or.inl ⟨by kernel_rfl, ?_⟩) (by assumption) ?_
                  rotate_left
                  · (intro w hSw; (try dsimp only at hSw); go_simp; try with_reducible rfl)
                  (try simp only [Act.put, List.setIfInBounds_toArray, List.set_cons_zero, List.set_cons_succ])
                  refine wpAnyH_done (by kernel_rfl) ?_ _
                  obtain ⟨wz, hwz⟩ : ∃ wz, (wx2).setRow Q1 #[.int .i64 z.u, .int .i64 z.s, .int .i64 z.c, .slice Aq z.ps.length dq] = wz := ⟨_, rfl⟩
                  have hq1 : wz.heap[Q1]? = some (.cells #[.int .i64 z.u, .int .i64 z.s, .int .i64 z.c, .slice Aq z.ps.length dq] 41 (0, 0)) := by rw [← hwz]; exact setRow_heap _ _ _ _ _ _ hq
                  have hpz : PcsAt wz (.slice Aq z.ps.length dq) z.ps := by rw [← hwz]; exact ((plc_not hq hps).keepF (W' := (wx2).setRow Q1 #[.int .i64 z.u, .int .i64 z.s, .int .i64 z.c, .slice Aq z.ps.length dq]) (by simp [World.setRow]) fun b _ hF => setRow_other _ _ _ _ hF.2).any
                  rw [hwz] at hkz ⊢
                  have HKZ := Lib.hid hkz
                  have HS8 : Hid (∀ W, Below wz.heap.size wz W → W.cell? ⟨Q1, 0, none⟩ = some (.int .i64 z.u) ∧ W.cell? ⟨Q1, 1, none⟩ = some (.int .i64 z.s) ∧ W.cell? ⟨Q1, 2, none⟩ = some (.int .i64 z.c) ∧ W.cell? ⟨Q1, 3, none⟩ = some (.slice Aq z.ps.length dq) ∧ W.cell? ⟨P, 2, none⟩ = some (.slice (some ⟨bp, op, none⟩) nl cA) ∧ W.cell? ⟨bp, op + i * 4, none⟩ = some (.int .i64 z.u) ∧ W.cell? ⟨bp, op + i * 4 + 1, none⟩ = some (.int .i64 z.s) ∧ W.cell? ⟨bp, op + i * 4 + 2, none⟩ = some (.int .i64 z.c) ∧ W.cell? ⟨bp, op + i * 4 + 3, none⟩ = some (.slice Bp z.ps.length dp)) := Lib.hid (fun W hk => by
                    obtain ⟨e0, e1, e2, e3⟩ := four_heads (keep_block hq1 hk)
                    obtain ⟨g0, g1, g2, g3⟩ := (HZC.out _ (HKZ.out.trans (hk.mono HKZ.out.size)))
                    exact ⟨e0, e1, e2, e3, (HPC.out _ (HKZ.out.trans (hk.mono HKZ.out.size))).2.2, g0, g1, g2, g3⟩)
                  have HSP : Hid (∀ W, Below wz.heap.size wz W → Calls Try.prog 17 #[.agg #[.int .i64 z.u, .int .i64 z.s, .int .i64 z.c, .slice Aq z.ps.length dq], .agg #[.int .i64 z.u, .int .i64 z.s, .int .i64 z.c, .slice Bp z.ps.length dp]] W (RetB (.bool true) W)) := Lib.hid (fun W hk => by
                    have h1 := refSamePlace_any (.slice Aq z.ps.length dq) (.slice Bp z.ps.length dp) z z W (hpz.keep hk) (HZP.out _ (HKZ.out.trans (hk.mono HKZ.out.size)))
                    rw [decide_eq_true (rfl : z = z)] at h1
                    exact h1)
                  have hkd2 : Below wz.heap.size wz wz.drew := (Below.refl _ wz).drew
                  clear hHeld hkz hq hps hq1 hpz hwz
                  go_wp2_with fail
                  refine wp_region_held_drew (S := fun w' => w'.cell? ⟨Q1, 0, none⟩ = some (.int .i64 z.u) ∧ w'.cell? ⟨Q1, 1, none⟩ = some (.int .i64 z.s) ∧ w'.cell? ⟨Q1, 2, none⟩ = some (.int .i64 z.c) ∧ w'.cell? ⟨Q1, 3, none⟩ = some (.slice Aq z.ps.length dq) ∧ w'.cell? ⟨P, 2, none⟩ = some (.slice (some ⟨bp, op, none⟩) nl cA) ∧ w'.cell? ⟨bp, op + i * 4, none⟩ = some (.int .i64 z.u) ∧ w'.cell? ⟨bp, op + i * 4 + 1, none⟩ = some (.int .i64 z.s) ∧ w'.cell? ⟨bp, op + i * 4 + 2, none⟩ = some (.int .i64 z.c) ∧ w'.cell? ⟨bp, op + i * 4 + 3, none⟩ = some (.slice Bp z.ps.length dp)) (by kernel_rfl) ?_ (fun hHeld => ?_)
                  · exact HS8.out _ hkd2
                  refine wpAnyH_take (i := 0) (oi := ⟨some 98, _, _, _, _, _⟩) (v := ?_) rfl (by kernel_rfl) (by kernel_rfl) (by kernel_rfl) (fun _ _ _ h => h) (Or.inl ⟨by kernel_rfl, ?_⟩) (by assumption) ?_
                  rotate_left
                  · (intro w hSw; (try dsimp only at hSw); go_simp; try with_reducible rfl)
                  (try simp only [Act.put, List.setIfInBounds_toArray, List.set_cons_zero, List.set_cons_succ])
                  refine wpAnyH_take (i := 1) (oi := ⟨some 99, _, _, _, _, _⟩) (v := ?_) rfl (by kernel_rfl) (by kernel_rfl) (by kernel_rfl) (fun _ _ _ h => h) (Or.inl ⟨by kernel_rfl, ?_⟩) (by assumption) ?_
                  rotate_left
                  · (intro w hSw; (try dsimp only at hSw); go_simp; try with_reducible rfl)
                  (try simp only [Act.put, List.setIfInBounds_toArray, List.set_cons_zero, List.set_cons_succ])
                  refine wpAnyH_take (i := 2) (oi := ⟨some 100, _, _, _, _, _⟩) (v := ?_) rfl (by kernel_rfl) (by kernel_rfl) (by kernel_rfl) (fun _ _ _ h => h) (Or.inl ⟨by kernel_rfl, ?_⟩) (by assumption) ?_
                  rotate_left
                  · (intro w hSw; (try dsimp only at hSw); go_simp; try with_reducible rfl)
                  (try simp only [Act.put, List.setIfInBounds_toArray, List.set_cons_zero, List.set_cons_succ])
                  refine wpAnyH_take (i := 3) (oi := ⟨some 101, _, _, _, _, _⟩) (v := ?_) rfl (by kernel_rfl) (by kernel_rfl) (by kernel_rfl) (fun _ _ _ h => h) (Or.inl ⟨by kernel_rfl, ?_⟩) (by assumption) ?_
                  rotate_left
                  · (intro w hSw; (try dsimp only at hSw); go_simp; try with_reducible rfl)
                  (try simp only [Act.put, List.setIfInBounds_toArray, List.set_cons_zero, List.set_cons_succ])
                  refine wpAnyH_take (i := 4) (oi := ⟨some 102, _, _, _, _, _⟩) (v := ?_) rfl (by kernel_rfl) (by kernel_rfl) (by kernel_rfl) (fun _ _ _ h => h) (Or.inl ⟨by kernel_rfl, ?_⟩) (by assumption) ?_
                  rotate_left
                  · (intro w hSw; (try dsimp only at hSw); go_simp; try with_reducible rfl)
                  (try simp only [Act.put, List.setIfInBounds_toArray, List.set_cons_zero, List.set_cons_succ])
                  refine wpAnyH_take (i := 5) (oi := ⟨some 103, _, _, _, _, _⟩) (v := ?_) rfl (by kernel_rfl) (by kernel_rfl) (by kernel_rfl) (fun _ _ _ h => h) (Or.inl ⟨by kernel_rfl, ?_⟩) (by assumption) ?_
                  rotate_left
                  · (intro w hSw; (try dsimp only at hSw); go_simp; try with_reducible rfl)
                  (try simp only [Act.put, List.setIfInBounds_toArray, List.set_cons_zero, List.set_cons_succ])
                  refine wpAnyH_take (i := 6) (oi := ⟨some 104, _, _, _, _, _⟩) (v := ?_) rfl (by kernel_rfl) (by kernel_rfl) (by kernel_rfl) (fun _ _ _ h => h) (Or.inl ⟨by kernel_rfl, ?_⟩) (by assumption) ?_
                  rotate_left
                  · (intro w hSw; (try dsimp only at hSw); go_simp; try with_reducible rfl)
                  (try simp only [Act.put, List.setIfInBounds_toArray, List.set_cons_zero, List.set_cons_succ])
                  refine wpAnyH_take (i := 7) (oi := ⟨some 105, _, _, _, _, _⟩) (v := ?_) rfl (by kernel_rfl) (by kernel_rfl) (by kernel_rfl) (fun _ _ _ h => h) (Or.inl ⟨by kernel_rfl, ?_⟩) (by assumption) ?_
                  rotate_left
                  · (intro w hSw; (try dsimp only at hSw); go_simp; try with_reducible rfl)
                  (try simp only [Act.put, List.setIfInBounds_toArray, List.set_cons_zero, List.set_cons_succ])
                  refine wpAnyH_take (i := 8) (oi := ⟨some 106, _, _, _, _, _⟩) (v := ?_) rfl (by kernel_rfl) (by kernel_rfl) (by kernel_rfl) (fun _ _ _ h => h) (Or.inl ⟨by kernel_rfl, ?_⟩) (by assumption) ?_
                  rotate_left
                  · (intro w hSw; (try dsimp only at hSw); go_simp; try with_reducible rfl)
                  (try simp only [Act.put, List.setIfInBounds_toArray, List.set_cons_zero, List.set_cons_succ])
                  refine wpAnyH_ready (rs := [9]) (by kernel_rfl) (by simp) ?_
                  refine AllReadyH.cons (o := ⟨some 107, _, _, _, _, _⟩) rfl (fun K hK => ?_) AllReadyH.nil
                  rw [if_pos (by kernel_rfl)]
                  go_simp
                  go_at_call 17; refine (HSP.out _ hkd2).mono ?_; rintro e wr2 ⟨rfl, hbs⟩
                  have hks := hkd2.trans (hbs.mono hkd2.size)
                  refine hK.out _ _ ?_ (fun hHeld => ?_)
                  · exact HS8.out _ hks
                  clear hK K
                  (try simp only [Act.put, List.setIfInBounds_toArray, List.set_cons_zero, List.set_cons_succ])
                  refine wpAnyH_take (i := 10) (oi := ⟨some 108, _, _, _, _, _⟩) (v := ?_) rfl (by kernel_rfl) (by kernel_rfl) (by kernel_rfl) (fun _ _ _ h => h) (Or.inl ⟨by kernel_rfl, ?_⟩) (by assumption) ?_
                  rotate_left
                  · (intro w hSw; (try dsimp only at hSw); go_simp; try with_reducible rfl)
                  (try simp only [Act.put, List.setIfInBounds_toArray, List.set_cons_zero, List.set_cons_succ])
                  refine wpAnyH_take (i := 11) (oi := ⟨some 109, _, _, _, _, _⟩) (v := ?_) rfl (by kernel_rfl) (by kernel_rfl) (by kernel_rfl) (fun _ _ _ h => h) (Or.inl ⟨by kernel_rfl, ?_⟩) (by assumption) ?_
                  rotate_left
                  · (intro w hSw; (try dsimp only at hSw); go_simp; try with_reducible rfl)
                  (try simp only [Act.put, List.setIfInBounds_toArray, List.set_cons_zero, List.set_cons_succ])
                  refine wpAnyH_done (by kernel_rfl) ?_ _
                  have HKY := Lib.hid (HKZ.out.trans (hks.mono HKZ.out.size))
                  clear hHeld hbs hks hkd2
                  go_wp2_with fail
                  go_roundg (nl - (i + 1))
                  case measure => have := HG.out; omega
                  case rel => exact ⟨i + 1, by omega, rfl, by go_num, HKY.out⟩
                · obtain ⟨wx4, Q1, hw4, hQ4, hQl, hbx4, hq⟩ := box_any wo.drew #[.int .i64 0, .int .i64 0, .int .i64 0, .slice none 0 0] 41
                  have hkx4 := hkd.trans (hbx4.mono hkd.size)
                  have hQw : w5.heap.size ≤ Q1 := by have := hkd.size; omega
                  rw [if_pos (by kernel_rfl)]
                  go_simp
                  refine hK.out _ _ ?_ (fun hHeld => ?_)
                  · exact HSF.out _ hkx4
                  clear hK K
                  (try simp only [Act.put, List.setIfInBounds_toArray, List.set_cons_zero, List.set_cons_succ])
                  clear hw4 hQ4
                  refine wpAnyH_ready (rs := [7]) (by kernel_rfl) (by simp) ?_
                  refine AllReadyH.cons (o := ⟨some 95, _, _, _, _, _⟩) rfl (fun K hK => ?_) AllReadyH.nil
                  rw [if_pos (by kernel_rfl)]
                  go_simp
                  go_at_call 16; refine (HFD.out _ hkx4).mono ?_; rintro e wx5 ⟨vq, rfl, hps, hbx5⟩; unfold plA
                  obtain ⟨Aq, dq, rfl⟩ := hps.form
                  have hkx5 := hkx4.trans (hbx5.mono hkx4.size)
                  have hq := keep_block hq hbx5
                  refine hK.out _ _ ?_ (fun hHeld => ?_)
                  · exact HSF.out _ hkx5
                  clear hK K
                  (try simp only [Act.put, List.setIfInBounds_toArray, List.set_cons_zero, List.set_cons_succ])
                  refine wpAnyH_take (i := 8) (oi := ⟨some 87, _, _, _, _, _⟩) (v := ?_) rfl (by kernel_rfl) (by kernel_rfl) (by kernel_rfl) (fun _ _ _ h => h) (Or.inl ⟨by kernel_rfl, ?_⟩) (by assumption) ?_
                  rotate_left
                  · (intro w hSw; (try dsimp only at hSw); go_simp; try with_reducible rfl)
                  (try simp only [Act.put, List.setIfInBounds_toArray, List.set_cons_zero, List.set_cons_succ])
                  refine wpAnyH_take (i := 9) (oi := ⟨some 96, _, _, _, _, _⟩) (v := ?_) rfl (by kernel_rfl) (by kernel_rfl) (by kernel_rfl) (fun _ _ _ h => h) (Or.inl ⟨by kernel_rfl, ?_⟩) (by assumption) ?_
                  rotate_left
                  · (intro w hSw; (try dsimp only at hSw); go_simp; try with_reducible rfl)
                  (try simp only [Act.put, List.setIfInBounds_toArray, List.set_cons_zero, List.set_cons_succ])
                  refine wpAnyH_take (i := 10) (oi := ⟨some 97, _, _, _, _, _⟩) (v := ?_) rfl (by kernel_rfl) (by kernel_rfl) (by kernel_rfl) (fun _ _ _ h => h) (Or.inl ⟨by kernel_rfl, ?_⟩) (by assumption) ?_
                  rotate_left
                  · (intro w hSw; (try dsimp only at hSw); go_simp; try with_reducible rfl)
                  (try simp only [Act.put, List.setIfInBounds_toArray, List.set_cons_zero, List.set_cons_succ])
                  refine wpAnyH_ready (rs := [12]) (by kernel_rfl) (by simp) ?_
                  refine AllReadyH.cons (o := ⟨none, _, _, _, _, _⟩) rfl (fun K hK => ?_) AllReadyH.nil
                  refine step_store_row16 rfl _ _ _ rfl Q1 #[.int .i64 z.u, .int .i64 z.s, .int .i64 z.c, .slice Aq z.ps.length dq] (by simp [Act.eval, Act.put]) (by simp [Act.eval, Act.put]) 41 _ hq (Try.sizePl _ _ _ _) rfl (one4 _ _ _ _ _ _) ?_
                  have hkz := below_row hkx5 hQw #[.int .i64 z.u, .int .i64 z.s, .int .i64 z.c, .slice Aq z.ps.length dq]
                  refine hK.out _ _ ?_ (fun hHeld => ?_)
                  · exact HSF.out _ hkz
                  clear hK K
                  (try simp only [Act.put, List.setIfInBounds_toArray, List.set_cons_zero, List.set_cons_succ])
                  refine wpAnyH_take (i := 13) (oi := ⟨some 12, _, _, _, _, _⟩) (v := ?_) rfl (by kernel_rfl) (by kernel_rfl) (by kernel_rfl) (fun _ _ _ h => h) (Or.inl ⟨by kernel_rfl, ?_⟩) (by assumption) ?_
                  rotate_left
                  · (intro w hSw; (try dsimp only at hSw); go_simp; try with_reducible rfl)
                  (try simp only [Act.put, List.setIfInBounds_toArray, List.set_cons_zero, List.set_cons_succ])
                  refine wpAnyH_done (by kernel_rfl) ?_ _
                  obtain ⟨wz, hwz⟩ : ∃ wz, (wx5).setRow Q1 #[.int .i64 z.u, .int .i64 z.s, .int .i64 z.c, .slice Aq z.ps.length dq] = wz := ⟨_, rfl⟩
                  have hq1 : wz.heap[Q1]? = some (.cells #[.int .i64 z.u, .int .i64 z.s, .int .i64 z.c, .slice Aq z.ps.length dq] 41 (0, 0)) := by rw [← hwz]; exact setRow_heap _ _ _ _ _ _ hq
                  have hpz : PcsAt wz (.slice Aq z.ps.length dq) z.ps := by rw [← hwz]; exact ((plc_not hq hps).keepF (W' := (wx5).setRow Q1 #[.int .i64 z.u, .int .i64 z.s, .int .i64 z.c, .slice Aq z.ps.length dq]) (by simp [World.setRow]) fun b _ hF => setRow_other _ _ _ _ hF.2).any
                  rw [hwz] at hkz ⊢
                  have HKZ := Lib.hid hkz
                  have HS8 : Hid (∀ W, Below wz.heap.size wz W → W.cell? ⟨Q1, 0, none⟩ = some (.int .i64 z.u) ∧ W.cell? ⟨Q1, 1, none⟩ = some (.int .i64 z.s) ∧ W.cell? ⟨Q1, 2, none⟩ = some (.int .i64 z.c) ∧ W.cell? ⟨Q1, 3, none⟩ = some (.slice Aq z.ps.length dq) ∧ W.cell? ⟨P, 2, none⟩ = some (.slice (some ⟨bp, op, none⟩) nl cA) ∧ W.cell? ⟨bp, op + i * 4, none⟩ = some (.int .i64 z.u) ∧ W.cell? ⟨bp, op + i * 4 + 1, none⟩ = some (.int .i64 z.s) ∧ W.cell? ⟨bp, op + i * 4 + 2, none⟩ = some (.int .i64 z.c) ∧ W.cell? ⟨bp, op + i * 4 + 3, none⟩ = some (.slice Bp z.ps.length dp)) := Lib.hid (fun W hk => by
                    obtain ⟨e0, e1, e2, e3⟩ := four_heads (keep_block hq1 hk)
                    obtain ⟨g0, g1, g2, g3⟩ := (HZC.out _ (HKZ.out.trans (hk.mono HKZ.out.size)))
                    exact ⟨e0, e1, e2, e3, (HPC.out _ (HKZ.out.trans (hk.mono HKZ.out.size))).2.2, g0, g1, g2, g3⟩)
                  have HSP : Hid (∀ W, Below wz.heap.size wz W → Calls Try.prog 17 #[.agg #[.int .i64 z.u, .int .i64 z.s, .int .i64 z.c, .slice Aq z.ps.length dq], .agg #[.int .i64 z.u, .int .i64 z.s, .int .i64 z.c, .slice Bp z.ps.length dp]] W (RetB (.bool true) W)) := Lib.hid (fun W hk => by
                    have h1 := refSamePlace_any (.slice Aq z.ps.length dq) (.slice Bp z.ps.length dp) z z W (hpz.keep hk) (HZP.out _ (HKZ.out.trans (hk.mono HKZ.out.size)))
                    rw [decide_eq_true (rfl : z = z)] at h1
                    exact h1)
                  have hkd2 : Below wz.heap.size wz wz.drew := (Below.refl _ wz).drew
                  clear hHeld hkz hq hps hq1 hpz hwz
                  go_wp2_with fail
                  refine wp_region_held_drew (S := fun w' => w'.cell? ⟨Q1, 0, none⟩ = some (.int .i64 z.u) ∧ w'.cell? ⟨Q1, 1, none⟩ = some (.int .i64 z.s) ∧ w'.cell? ⟨Q1, 2, none⟩ = some (.int .i64 z.c) ∧ w'.cell? ⟨Q1, 3, none⟩ = some (.slice Aq z.ps.length dq) ∧ w'.cell? ⟨P, 2, none⟩ = some (.slice (some ⟨bp, op, none⟩) nl cA) ∧ w'.cell? ⟨bp, op + i * 4, none⟩ = some (.int .i64 z.u) ∧ w'.cell? ⟨bp, op + i * 4 + 1, none⟩ = some (.int .i64 z.s) ∧ w'.cell? ⟨bp, op + i * 4 + 2, none⟩ = some (.int .i64 z.c) ∧ w'.cell? ⟨bp, op + i * 4 + 3, none⟩ = some (.slice Bp z.ps.length dp)) (by kernel_rfl) ?_ (fun hHeld => ?_)
                  · exact HS8.out _ hkd2
                  refine wpAnyH_take (i := 0) (oi := ⟨some 98, _, _, _, _, _⟩) (v := ?_) rfl (by kernel_rfl) (by kernel_rfl) (by kernel_rfl) (fun _ _ _ h => h) (Or.inl ⟨by kernel_rfl, ?_⟩) (by assumption) ?_
                  rotate_left
                  · (intro w hSw; (try dsimp only at hSw); go_simp; try with_reducible rfl)
                  (try simp only [Act.put, List.setIfInBounds_toArray, List.set_cons_zero, List.set_cons_succ])
                  refine wpAnyH_take (i := 1) (oi := ⟨some 99, _, _, _, _, _⟩) (v := ?_) rfl (by kernel_rfl) (by kernel_rfl) (by kernel_rfl) (fun _ _ _ h => h) (Or.inl ⟨by kernel_rfl, ?_⟩) (by assumption) ?_
                  rotate_left
                  · (intro w hSw; (try dsimp only at hSw); go_simp; try with_reducible rfl)
                  (try simp only [Act.put, List.setIfInBounds_toArray, List.set_cons_zero, List.set_cons_succ])
                  refine wpAnyH_take (i := 2) (oi := ⟨some 100, _, _, _, _, _⟩) (v := ?_) rfl (by kernel_rfl) (by kernel_rfl) (by kernel_rfl) (fun _ _ _ h => h) (Or.inl ⟨by kernel_rfl, ?_⟩) (by assumption) ?_
                  rotate_left
                  · (intro w hSw; (try dsimp only at hSw); go_simp; try with_reducible rfl)
                  (try simp only [Act.put, List.setIfInBounds_toArray, List.set_cons_zero, List.set_cons_succ])
                  refine wpAnyH_take (i := 3) (oi := ⟨some 101, _, _, _, _, _⟩) (v := ?_) rfl (by kernel_rfl) (by kernel_rfl) (by kernel_rfl) (fun _ _ _ h => h) (Or.inl ⟨by kernel_rfl, ?_⟩) (by assumption) ?_
                  rotate_left
                  · (intro w hSw; (try dsimp only at hSw); go_simp; try with_reducible rfl)
                  (try simp only [Act.put, List.setIfInBounds_toArray, List.set_cons_zero, List.set_cons_succ])
                  refine wpAnyH_take (i := 4) (oi := ⟨some 102, _, _, _, _, _⟩) (v := ?_) rfl (by kernel_rfl) (by kernel_rfl) (by kernel_rfl) (fun _ _ _ h => h) (Or.inl ⟨by kernel_rfl, ?_⟩) (by assumption) ?_
                  rotate_left
                  · (intro w hSw; (try dsimp only at hSw); go_simp; try with_reducible rfl)
                  (try simp only [Act.put, List.setIfInBounds_toArray, List.set_cons_zero, List.set_cons_succ])
                  refine wpAnyH_take (i := 5) (oi := ⟨some 103, _, _, _, _, _⟩) (v := ?_) rfl (by kernel_rfl) (by kernel_rfl) (by kernel_rfl) (fun _ _ _ h => h) (Or.inl ⟨by kernel_rfl, ?_⟩) (by assumption) ?_
                  rotate_left
                  · (intro w hSw; (try dsimp only at hSw); go_simp; try with_reducible rfl)
                  (try simp only [Act.put, List.setIfInBounds_toArray, List.set_cons_zero, List.set_cons_succ])
                  refine wpAnyH_take (i := 6) (oi := ⟨some 104, _, _, _, _, _⟩) (v := ?_) rfl (by kernel_rfl) (by kernel_rfl) (by kernel_rfl) (fun _ _ _ h => h) (Or.inl ⟨by kernel_rfl, ?_⟩) (by assumption) ?_
                  rotate_left
                  · (intro w hSw; (try dsimp only at hSw); go_simp; try with_reducible rfl)
                  (try simp only [Act.put, List.setIfInBounds_toArray, List.set_cons_zero, List.set_cons_succ])
                  refine wpAnyH_take (i := 7) (oi := ⟨some 105, _, _, _, _, _⟩) (v := ?_) rfl (by kernel_rfl) (by kernel_rfl) (by kernel_rfl) (fun _ _ _ h => h) (Or.inl ⟨by kernel_rfl, ?_⟩) (by assumption) ?_
                  rotate_left
                  · (intro w hSw; (try dsimp only at hSw); go_simp; try with_reducible rfl)
                  (try simp only [Act.put, List.setIfInBounds_toArray, List.set_cons_zero, List.set_cons_succ])
                  refine wpAnyH_take (i := 8) (oi := ⟨some 106, _, _, _, _, _⟩) (v := ?_) rfl (by kernel_rfl) (by kernel_rfl) (by kernel_rfl) (fun _ _ _ h => h) (Or.inl ⟨by kernel_rfl, ?_⟩) (by assumption) ?_
                  rotate_left
                  · (intro w hSw; (try dsimp only at hSw); go_simp; try with_reducible rfl)
                  (try simp only [Act.put, List.setIfInBounds_toArray, List.set_cons_zero, List.set_cons_succ])
                  refine wpAnyH_ready (rs := [9]) (by kernel_rfl) (by simp) ?_
                  refine AllReadyH.cons (o := ⟨some 107, _, _, _, _, _⟩) rfl (fun K hK => ?_) AllReadyH.nil
                  rw [if_pos (by kernel_rfl)]
                  go_simp
                  go_at_call 17; refine (HSP.out _ hkd2).mono ?_; rintro e wr2 ⟨rfl, hbs⟩
                  have hks := hkd2.trans (hbs.mono hkd2.size)
                  refine hK.out _ _ ?_ (fun hHeld => ?_)
                  · exact HS8.out _ hks
                  clear hK K
                  (try simp only [Act.put, List.setIfInBounds_toArray, List.set_cons_zero, List.set_cons_succ])
                  refine wpAnyH_take (i := 10) (oi := ⟨some 108, _, _, _, _, _⟩) (v := ?_) rfl (by kernel_rfl) (by kernel_rfl) (by kernel_rfl) (fun _ _ _ h => h) (Or.inl ⟨by kernel_rfl, ?_⟩) (by assumption) ?_
                  rotate_left
                  · (intro w hSw; (try dsimp only at hSw); go_simp; try with_reducible rfl)
                  (try simp only [Act.put, List.setIfInBounds_toArray, List.set_cons_zero, List.set_cons_succ])
                  refine wpAnyH_take (i := 11) (oi := ⟨some 109, _, _, _, _, _⟩) (v := ?_) rfl (by kernel_rfl) (by kernel_rfl) (by kernel_rfl) (fun _ _ _ h => h) (Or.inl ⟨by kernel_rfl, ?_⟩) (by assumption) ?_
                  rotate_left
                  · (intro w hSw; (try dsimp only at hSw); go_simp; try with_reducible rfl)
                  (try simp only [Act.put, List.setIfInBounds_toArray, List.set_cons_zero, List.set_cons_succ])
                  refine wpAnyH_done (by kernel_rfl) ?_ _
                  have HKY := Lib.hid (HKZ.out.trans (hks.mono HKZ.out.size))
                  clear hHeld hbs hks hkd2
                  go_wp2_with fail
                  go_roundg (nl - (i + 1))
                  case measure => have := HG.out; omega
                  case rel => exact ⟨i + 1, by omega, rfl, by go_num, HKY.out⟩
            · have hltz : ¬ (i : Int) < (nl : Int) := by omega
              have hkd := HBW.out.drew
              clear hgg hbw
              go_wp2_with fail
              as_aux_lemma =>
                refine wp_region_held_drew (S := fun w' => w'.cell? ⟨Q, 0, none⟩ = some (.int .i64 f) ∧ w'.cell? ⟨Q, 1, none⟩ = some (.int .u32 m) ∧ w'.cell? ⟨Q, 2, none⟩ = some (.slice A3 n3 d3)) (by kernel_rfl) ?_ (fun hHeld => ?_)
                · exact HQC.out _ hkd
                refine wpAnyH_take (i := 0) (oi := ⟨some 110, _, _, _, _, _⟩) (v := ?_) rfl (by kernel_rfl) (by kernel_rfl) (by kernel_rfl) (fun _ _ _ h => h) (Or.inl ⟨by kernel_rfl, ?_⟩) (by assumption) ?_
                rotate_left
                · (intro w hSw; (try dsimp only at hSw); go_simp; try with_reducible rfl)
                (try simp only [Act.put, List.setIfInBounds_toArray, List.set_cons_zero, List.set_cons_succ])
                refine wpAnyH_take (i := 2) (oi := ⟨some 112, _, _, _, _, _⟩) (v := ?_) rfl (by kernel_rfl) (by kernel_rfl) (by kernel_rfl) (fun _ _ _ h => h) (Or.inl ⟨by kernel_rfl, ?_⟩) (by assumption) ?_
                rotate_left
                · (intro w hSw; (try dsimp only at hSw); go_simp; try with_reducible rfl)
                (try simp only [Act.put, List.setIfInBounds_toArray, List.set_cons_zero, List.set_cons_succ])
                refine wpAnyH_ready (rs := [1]) (by kernel_rfl) (by simp) ?_
                refine AllReadyH.cons (o := ⟨some 111, _, _, _, _, _⟩) rfl (fun K hK => ?_) AllReadyH.nil
                rw [if_pos (by kernel_rfl)]
                go_simp
                go_at_call 18; refine (HSPL.out _ hkd).mono ?_; rintro e wa ⟨rfl, hba⟩
                have hka := hkd.trans (hba.mono hkd.size)
                rw [HSN.out]
                refine hK.out _ _ ?_ (fun hHeld => ?_)
                · exact HQC.out _ hka
                clear hK K
                (try simp only [Act.put, List.setIfInBounds_toArray, List.set_cons_zero, List.set_cons_succ])
                refine wpAnyH_ready (rs := [3]) (by kernel_rfl) (by simp) ?_
                refine AllReadyH.cons (o := ⟨some 113, _, _, _, _, _⟩) rfl (fun K hK => ?_) AllReadyH.nil
                rw [if_pos (by kernel_rfl)]
                go_simp
                go_at_call 19; refine (HCOR.out _ hka).mono ?_; rintro e wb ⟨vb, rfl, hib, hbb⟩
                obtain ⟨Ab, cb, rfl, _⟩ := hib
                have hkb := hka.trans (hbb.mono hka.size)
                rw [HNC.out]
                refine hK.out _ _ ?_ (fun hHeld => ?_)
                · exact HQC.out _ hkb
                clear hK K
                (try simp only [Act.put, List.setIfInBounds_toArray, List.set_cons_zero, List.set_cons_succ])
                refine wpAnyH_take (i := 4) (oi := ⟨some 114, _, _, _, _, _⟩) (v := ?_) rfl (by kernel_rfl) (by kernel_rfl) (by kernel_rfl) (fun _ _ _ h => h) (Or.inl ⟨by kernel_rfl, ?_⟩) (by assumption) ?_
                rotate_left
                · (intro w hSw; (try dsimp only at hSw); go_simp; try with_reducible rfl)
                (try simp only [Act.put, List.setIfInBounds_toArray, List.set_cons_zero, List.set_cons_succ])
                refine wpAnyH_take (i := 5) (oi := ⟨some 115, _, _, _, _, _⟩) (v := ?_) rfl (by kernel_rfl) (by kernel_rfl) (by kernel_rfl) (fun _ _ _ h => h) (Or.inl ⟨by kernel_rfl, ?_⟩) (by assumption) ?_
                rotate_left
                · (intro w hSw; (try dsimp only at hSw); go_simp; try with_reducible rfl)
                (try simp only [Act.put, List.setIfInBounds_toArray, List.set_cons_zero, List.set_cons_succ])
                refine wpAnyH_take (i := 6) (oi := ⟨some 116, _, _, _, _, _⟩) (v := ?_) rfl (by kernel_rfl) (by kernel_rfl) (by kernel_rfl) (fun _ _ _ h => h) (Or.inl ⟨by kernel_rfl, ?_⟩) (by assumption) ?_
                rotate_left
                · (intro w hSw; (try dsimp only at hSw); go_simp; try with_reducible rfl)
                (try simp only [Act.put, List.setIfInBounds_toArray, List.set_cons_zero, List.set_cons_succ])
                refine wpAnyH_ready (rs := [7]) (by kernel_rfl) (by simp) ?_
                refine AllReadyH.cons (o := ⟨some 117, _, _, _, _, _⟩) rfl (fun K hK => ?_) AllReadyH.nil
                rw [if_pos (by kernel_rfl)]
                go_simp
                go_at_call 7; refine (HAW.out _).mono ?_; rintro e wd ⟨rfl, hbd⟩
                have hkw := hkb.trans (hbd.mono hkb.size)
                refine hK.out _ _ ?_ (fun hHeld => ?_)
                · exact HQC.out _ hkw
                clear hK K
                (try simp only [Act.put, List.setIfInBounds_toArray, List.set_cons_zero, List.set_cons_succ])
                refine wpAnyH_take (i := 8) (oi := ⟨some 118, _, _, _, _, _⟩) (v := ?_) rfl (by kernel_rfl) (by kernel_rfl) (by kernel_rfl) (fun _ _ _ h => h) (Or.inl ⟨by kernel_rfl, ?_⟩) (by assumption) ?_
                rotate_left
                · (intro w hSw; (try dsimp only at hSw); go_simp; try with_reducible rfl)
                (try simp only [Act.put, List.setIfInBounds_toArray, List.set_cons_zero, List.set_cons_succ])
                refine wpAnyH_take (i := 9) (oi := ⟨some 4, _, _, _, _, _⟩) (v := ?_) rfl (by kernel_rfl) (by kernel_rfl) (by kernel_rfl) (fun _ _ _ h => h) (Or.inl ⟨by kernel_rfl, ?_⟩) (by assumption) ?_
                rotate_left
                · (intro w hSw; (try dsimp only at hSw); go_simp; try with_reducible rfl)
                (try simp only [Act.put, List.setIfInBounds_toArray, List.set_cons_zero, List.set_cons_succ])
                refine wpAnyH_done (by kernel_rfl) ?_ _
                have HK9 := Lib.hid (HW5.out.trans (hkw.mono HW5.out.size))
                clear hHeld hba hbb hbd hka hkb hkw
                go_wp2_with fail
                go_ret
                exact ⟨rfl, HK9.out⟩
    · have hb0 : (E != 0) = true := by simpa using hE0
      have HE := Lib.hid hE0
      clear hb3 hwhy hE0
      obtain ⟨w4, Q, hw4, hQ, hQl, hb4, hqb⟩ := box_any w3 #[.int .i64 0, .int .u32 0, .slice none 0 0] 25
      have HK4 := Lib.hid (HK3.out.trans (hb4.mono HK3.out.size))
      have HQB := Lib.hid hqb
      obtain ⟨w5, hw5⟩ : ∃ w5, w4.setRow Q #[.int .i64 0, .int .u32 0, .slice none 0 0] = w5 := ⟨_, rfl⟩
      have hb5 : Below w3.heap.size w3 w5 := by rw [← hw5]; exact below_row hb4 (by omega) _
      have HK5 := Lib.hid (HK3.out.trans (hb5.mono HK3.out.size))
      clear r0 r1 r2 hb4 hb5 hqb
      unfold planA
      obtain ⟨r0, r1, r2⟩ := three_heads (keep_block HBOX.out HK5.out)
      go_wp2_with (refine wpList_store_row rfl _ _ _ rfl Q #[.int .i64 0, .int .u32 0, .slice none 0 0] rfl rfl 25 _ HQB.out (Try.sizePn _ _ _) rfl (one3 _ _ _ _ _) ?_)
      refine (HWY.out _ HK5.out).mono ?_
      rintro e w6 ⟨E', rfl, hwhy', hb6⟩
      have hEE : E' = E := hwhy'.unique HWH.out
      subst hEE
      have HK6 := Lib.hid (HK5.out.trans (hb6.mono HK5.out.size))
      clear hb6 hwhy' hw5 hw4 r0 r1 r2
      go_wp2_with fail
      refine (HAW.out _).mono ?_
      rintro e w7 ⟨rfl, hb7⟩
      have HK7 := Lib.hid (HB1.out.trans ((HK6.out.trans (hb7.mono HK6.out.size)).mono HB1.out.size))
      clear hb7
      go_wp2_with fail
      go_ret
      exact ⟨rfl, HK7.out⟩
  · have HLN := Lib.hid (fun W hk => (HLI.out W hk).2 hlit)
    clear HLI hlit ho hi'
    go_enter Try.func4, Try.ntmps4
    go_wp2_with fail
    refine (HLN.out _ HK1.out).mono ?_
    rintro e w2 ⟨rfl, hb2⟩
    have HK2 := Lib.hid hb2
    clear hb2
    go_wp2_with fail
    refine (HAW.out _).mono ?_
    rintro e w3 ⟨rfl, hb3⟩
    have HK3 := Lib.hid (HB1.out.trans ((HK2.out.trans (hb3.mono HK2.out.size)).mono HB1.out.size))
    clear hb3
    go_wp2_with fail
    go_ret
    exact ⟨rfl, HK3.out⟩
end Go.Proofs.Ytajgebcaobknoaa
