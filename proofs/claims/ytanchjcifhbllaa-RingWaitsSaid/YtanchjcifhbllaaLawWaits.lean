/-
  Nobody who is on waits longer for a pick than its weight says.
  Conditions: none beyond the argument's own reading.
-/
import Derived.Test.YtanchjcifhbllaaOn
set_option linter.unusedVariables false
namespace Go.Proofs.Ytanchjcifhbllaa
open Go.RowKit

set_option maxRecDepth 100000 in
set_option maxHeartbeats 8000000 in
theorem waits_law (v : Value) (acts : List ActH) (who : Nat) (W : World) (hA : ActsAt W v acts) (hok : ∀ a ∈ acts, ActOk a) (hwho : who < 256) : Calls Try.prog 6 #[v, .int .u8 who] W (RetB (.bool true) W) := by
  have HAW := Lib.hid awake_any
  have HNL := Lib.hid new_lit
  have HOK := Lib.hid hok
  obtain ⟨A, c, rfl, hlen, hat⟩ := hA
  have HAT := Lib.hid hat
  obtain ⟨n, hn⟩ : ∃ n, acts.length = n := ⟨_, rfl⟩
  have HN := Lib.hid hn
  rw [hn] at hlen ⊢
  clear hok hat hn
  go_enter Try.func6, Try.ntmps6
  go_wp2_with fail
  refine (HNL.out _).mono ?_
  intro e w1 hnew
  obtain ⟨rfl, hh⟩ := held_new hnew (by decide) (by decide)
  clear hnew
  obtain ⟨rb, hrb⟩ : ∃ rb, W.heap.size = rb := ⟨_, rfl⟩
  have HRB := Lib.hid hrb
  rw [hrb] at hh ⊢
  have H1 := Lib.hid hh
  clear hh hrb
  go_wp2_with fail
  go_loopg [7] n (fun gg so wr => ∃ (i : Nat) (mv : Value) (P S : Rg), i ≤ n ∧ gg = n - i ∧ so = .int .i64 i ∧ Held rb W wr rb mv P ∧ Ghost S P)
  case atStart => exact ⟨0, _, _, _, Nat.zero_le _, by omega, rfl, H1.out, ghost_new 2048 (by decide) (by decide)⟩
  case round =>
    obtain ⟨i, mv, P, S, hi, hg, rfl, hh, hgh⟩ := hrel
    have HH := Lib.hid hh
    have HGH := Lib.hid hgh
    have HG := Lib.hid hg
    clear hh hgh hg
    have hi0 : (0 : Int) ≤ (i : Int) := by omega
    by_cases hlt : i < n
    · have hltz : (i : Int) < (n : Int) := by omega
      by_cases hl6 : i < 40
      · have hl7 : (i : Int) < 40 := by omega
        obtain ⟨b, off, hA, hbl, hcells⟩ := HAT.out (by have := HN.out; omega)
        subst hA
        obtain ⟨y, hy⟩ := ex_at (xs := acts) (k := i) (by have := HN.out; omega)
        have hnu := HOK.out y (List.mem_of_getElem? hy)
        have HCELL : Hid (∀ w', Below rb W w' → ActAt w' b (off + i * 4) y) := fun w' hb => (hcells i y hy).keep hb (by have := HRB.out; omega)
        obtain ⟨x0, x1, x2, x3⟩ := HCELL.out wr HH.out.bel
        obtain ⟨kd, id, w, nu⟩ := y
        unfold ActOk at hnu
        simp only at x0 x1 x2 x3 hnu
        clear hcells hy
        have HC := Lib.hid (call_any wr rb mv P kd id w nu HH.out.lies HH.out.ok)
        go_wp2_with fail
        refine HC.out.mono ?_
        intro e w2 hm
        obtain ⟨mv2, hv, h2, ha2, hg2⟩ := HH.out.mut hm (HH.out.ok.call kd id w)
        obtain rfl := hv
        have H2 := Lib.hid h2
        have G2 := Lib.hid (HGH.out.call kd id w)
        clear hm h2 ha2 hg2 x0 x1 x2 x3
        obtain ⟨x0, x1, x2, x3⟩ := HCELL.out w2 H2.out.bel
        go_wp2_with fail
        go_loopg [8] nu (fun gg sp wr2 => ∃ (k : Nat) (mv' : Value) (P' S' : Rg), k ≤ nu ∧ gg = nu - k ∧ sp = .int .i64 k ∧ Held rb W wr2 rb mv' P' ∧ Ghost S' P')
        case atStart => exact ⟨0, mv2, _, _, Nat.zero_le _, by omega, rfl, H2.out, G2.out⟩
        case round =>
          obtain ⟨k, mv3, P3, S3, hk, hg, rfl, hh, hgh⟩ := hrel
          have H3 := Lib.hid hh
          have G3 := Lib.hid hgh
          have HG3 := Lib.hid hg
          clear hh hgh hg x0 x1 x2 x3
          obtain ⟨x0, x1, x2, x3⟩ := HCELL.out wr H3.out.bel
          simp only at x0 x1 x2 x3
          have hk0 : (0 : Int) ≤ (k : Int) := by omega
          by_cases hkd : kd = 5
          · have q5 : (kd == 5) = true := beq_iff_eq.2 hkd
            by_cases hlt2 : k < nu
            · have q6 : (k : Int) < (nu : Int) := by omega
              have HP := Lib.hid (pick_any wr rb mv3 P3 H3.out.lies H3.out.ok)
              clear hkd
              go_wp2_with fail
              refine HP.out.mono ?_
              intro e w4 hm
              obtain ⟨mv4, hv, h4, ha4, hg4⟩ := H3.out.mut hm H3.out.ok.pick
              obtain rfl := hv
              have H4 := Lib.hid h4
              have G4 := Lib.hid G3.out.pick
              clear hm h4 ha4 hg4
              go_wp2_with fail
              go_roundg (nu - (k + 1))
              case measure => have := HG3.out; omega
              case rel => exact ⟨k + 1, mv4, _, _, by omega, rfl, by go_num, H4.out, G4.out⟩
            · have q6 : ¬ (k : Int) < (nu : Int) := by omega
              clear hkd
              go_wp2_with fail
              go_roundg (n - (i + 1))
              case measure => have := HG.out; omega
              case rel => exact ⟨i + 1, mv3, _, _, by omega, rfl, by go_num, H3.out, G3.out⟩

          · have q5 : (kd == 5) = false := beq_eq_false_iff_ne.2 hkd
            clear hkd
            go_wp2_with fail
            go_roundg (n - (i + 1))
            case measure => have := HG.out; omega
            case rel => exact ⟨i + 1, mv3, _, _, by omega, rfl, by go_num, H3.out, G3.out⟩

      · have hl7 : ¬ (i : Int) < 40 := by omega
        have HME := Lib.hid (members_any wr rb mv P HH.out.lies HH.out.ok)
        go_wp2_with fail
        refine HME.out.mono ?_
        rintro e w5 ⟨v5, rfl, ht, hb⟩
        have H5 := Lib.hid (HH.out.below hb)
        have HON := Lib.hid (on_any w5 _ v5 P.l ht HH.out.ok.len (fun m hm => (HH.out.ok.mem hm).2.1))
        obtain ⟨g1, g2, g3⟩ := HGH.out.sums
        rw [g1, g2] at HON
        obtain ⟨c0, hc0⟩ : ∃ c0, cntOn S.l = c0 := ⟨_, rfl⟩
        obtain ⟨s0, hs0⟩ : ∃ s0, sumOn S.l = s0 := ⟨_, rfl⟩
        rw [hc0, hs0] at HON
        have HC0 := Lib.hid hc0
        have HS0 := Lib.hid hs0
        obtain ⟨b1, b2⟩ := sum_le (l := P.l) (fun m hm => (HH.out.ok.mem hm).2.1)
        have b3 := HH.out.ok.len
        rw [g1, g2, hc0, hs0] at b1
        rw [g1, hc0] at b2
        obtain ⟨bt, hbt, hbt1, hbt2, hbt3⟩ := ht
        subst hbt
        obtain ⟨nl, hnl⟩ : ∃ nl, P.l.length = nl := ⟨_, rfl⟩
        have HNLL := Lib.hid hnl
        rw [hnl] at b2 b3 HON ⊢
        have HTC := Lib.hid hbt3
        have HTL := Lib.hid hbt2
        have HTB := Lib.hid hbt1
        have HW5 := Lib.hid hb.size
        clear hb hbt1 hbt2 hbt3 hnl g1 g2 g3 hc0 hs0
        go_wp2_with fail
        refine HON.out.mono ?_
        rintro e w6 ⟨rfl, hb⟩
        have H6 := Lib.hid (H5.out.below hb)
        have HB6 := Lib.hid hb
        clear hb

        by_cases h0 : nl = 0
        · have r0 : ((nl : Int) == 0) = true := beq_iff_eq.2 (by omega)
          clear h0 b1 b2 b3
          go_wp2_with fail
          refine (HAW.out _).mono ?_
          rintro e w9 ⟨rfl, hb⟩
          have HB9 := Lib.hid (H6.out.below hb)
          clear hb
          go_wp2
          go_ret
          exact ⟨rfl, by rw [HRB.out]; exact HB9.out.bel⟩

        · have r0 : ((nl : Int) == 0) = false := beq_eq_false_iff_ne.2 (by omega)
          have r1 : ((nl : Int) != 0) = true := by simp; omega
          have hnp : 0 < nl := by omega
          obtain ⟨q, hq⟩ : ∃ q, who % nl = q := ⟨_, rfl⟩
          have hql : q < nl := by rw [← hq]; exact Nat.mod_lt _ hnp
          have r2 : (who : Int) % (nl : Int) = (q : Int) := by rw [← hq]; exact (Int.natCast_emod who nl).symm
          have r3 : (who : Int).tmod (nl : Int) = (q : Int) := by rw [← hq]; rfl
          have hqz : (q : Int) < (nl : Int) := by omega
          have hq0 : (0 : Int) ≤ (q : Int) := by omega
          obtain ⟨p, hp⟩ := ex_at (xs := P.l) (k := q) (by have := HNLL.out; omega)
          obtain ⟨z0, z1, z2⟩ := HTC.out q p hp
          have e6 := HB6.out.block bt HTL.out
          have t0 := (cell_same e6 _).trans z0
          have t1 := (cell_same e6 _).trans z1
          have t2 := (cell_same e6 _).trans z2
          have f3 := HH.out.ok.fit.pos p (List.mem_of_getElem? hp)
          have f4 := (HH.out.ok.mem (List.mem_of_getElem? hp)).2.1
          obtain ⟨a, ha, k1, k2, k3, _⟩ := HGH.out.at_ hp
          have HAS := Lib.hid (And.intro ha (And.intro k1 (And.intro k2 k3)))
          clear z0 z1 z2 e6 hp ha k1 k2 k3 hq
          obtain ⟨p1, p2, p3, p4⟩ := p
          simp only at t0 t1 t2 f3 f4 HAS
          cases p4 with
          | false =>
            clear h0 b1 b2 b3
            go_wp2_with fail
            refine (HAW.out _).mono ?_
            rintro e w9 ⟨rfl, hb⟩
            have HB9 := Lib.hid ((H6.out.below ((Below.refl _ w6).alloc (Nat.le_refl _) _)).below hb)
            clear hb
            go_wp2
            go_ret
            exact ⟨rfl, by rw [HRB.out]; exact HB9.out.bel⟩

          | true =>
            have hc1 : 1 ≤ c0 := by
              obtain ⟨ha, _, _, k3⟩ := HAS.out
              have := (sum_mem (List.mem_of_getElem? ha) k3.symm).2
              have := HC0.out
              omega
            obtain ⟨c1, hc1'⟩ : ∃ c1, c0 - 1 = c1 := ⟨_, rfl⟩
            obtain ⟨pr, hpr⟩ : ∃ pr, c1 * s0 = pr := ⟨_, rfl⟩
            obtain ⟨T, hT⟩ : ∃ T, pr / p2 = T := ⟨_, rfl⟩
            have hprl : pr ≤ 1024000 := by
              rw [← hpr]
              have : c1 * s0 ≤ 32 * 32000 := Nat.mul_le_mul (by omega) (by omega)
              omega
            have hTl : T ≤ 1024000 := by rw [← hT]; exact Nat.le_trans (Nat.div_le_self _ _) hprl
            have hTT := Nat.lt_mul_of_div_lt (show pr / p2 < T + 1 by omega) f3
            have HTT := Lib.hid hTT
            have u1 : (c0 : Int) - 1 = (c1 : Int) := by omega
            have u2 : (c1 : Int) * (s0 : Int) = (pr : Int) := by rw [← Int.natCast_mul, hpr]
            have u3 : (pr : Int) / (p2 : Int) = (T : Int) := by rw [← hT]; exact (Int.natCast_ediv pr p2).symm
            have u4 : (pr : Int).tdiv (p2 : Int) = (T : Int) := by rw [← hT]; rfl
            have u5 : ((p2 : Int) == 0) = false := beq_eq_false_iff_ne.2 (by omega)
            have u6 : ((p2 : Int) != 0) = true := by simp; omega
            have HCP := Lib.hid (And.intro hc1' hpr)
            have hc1l : c1 ≤ 32 := by omega
            have hs0l : s0 ≤ 32000 := by omega
            clear h0 b1 b2 b3 hc1 hc1' hpr hT hTT
            by_cases hbig : 20000 < T
            · have u7 : (20000 : Int) < (T : Int) := by omega
              go_wp2_with fail
              refine (HAW.out _).mono ?_
              rintro e w9 ⟨rfl, hb⟩
              have HB9 := Lib.hid ((H6.out.below ((Below.refl _ w6).alloc (Nat.le_refl _) _)).below hb)
              clear hb
              go_wp2
              go_ret
              exact ⟨rfl, by rw [HRB.out]; exact HB9.out.bel⟩

            · have u7 : ¬ (20000 : Int) < (T : Int) := by omega
              obtain ⟨N7, hN7⟩ : ∃ N7, w6.heap.size = N7 := ⟨_, rfl⟩
              go_wp2_with fail
              obtain ⟨w7, hw7⟩ : ∃ w7, w6.alloc (.cells #[.int .i64 p1, .int .i64 p2, .bool true] 44) = w7 := ⟨_, rfl⟩
              rw [hw7]
              have hb7 : Below w6.heap.size w6 w7 := by rw [← hw7]; exact (Below.refl _ w6).alloc (Nat.le_refl _) _
              have HN7 : Hid (w7.heap[N7]? = some (.cells #[.int .i64 p1, .int .i64 p2, .bool true] 44 (0, 0))) := by rw [← hw7]; exact alloc_block w6 _ hN7
              have H7 := Lib.hid (H6.out.below hb7)
              have HA7 : Hid (Aside (fun k => k = N7) w7 rb mv) := by rw [← hw7, ← hN7]; exact aside_new w6 rb mv _ H6.out.lies
              clear hb7 hw7 hN7 t0 t1 t2 u3 u4 r2 r3
              go_loopg [102] (T + 1) (fun gg st wr2 => ∃ (t : Nat) (mv' : Value) (P' S' : Rg), t ≤ T + 1 ∧ gg = T + 1 - t ∧ st = .int .i64 t ∧ Held rb W wr2 rb mv' P' ∧ Ghost S' P' ∧ Since S.l S'.l ∧ gotS S.l S'.l = t ∧ (∀ b, S'.l[q]? = some b → b.n = a.n) ∧ wr2.heap[N7]? = some (.cells #[.int .i64 p1, .int .i64 p2, .bool true] 44 (0, 0)) ∧ Aside (fun k => k = N7) wr2 rb mv')
              case atStart => exact ⟨0, mv, P, S, Nat.zero_le _, by omega, rfl, H7.out, HGH.out, Since.refl _, gotS_self _, fun b hb => by (have h2 := HAS.out.1; rw [h2] at hb; injection hb with hb; rw [hb]), HN7.out, HA7.out⟩
              case round =>
                obtain ⟨t, mv2, P2, S2, ht, hg, rfl, hh, hgh, hsi, hgot, hsame, hbox, haside⟩ := hrel
                have HH2 := Lib.hid hh
                have HG2 := Lib.hid hgh
                have HSI := Lib.hid hsi
                have HGOT := Lib.hid hgot
                have HSAME := Lib.hid hsame
                have HBOX := Lib.hid hbox
                have HASD := Lib.hid haside
                have HGM := Lib.hid hg
                clear hh hgh hsi hgot hsame hbox haside hg
                have ht0 : (0 : Int) ≤ (t : Int) := by omega
                by_cases hlt3 : t < T + 1
                · have hltz3 : (t : Int) < (T : Int) + 1 := by omega
                  obtain ⟨x, hx, hpv, hx1, hpl, hsi2, hgot2⟩ := pick_on HG2.out HSI.out HAS.out.1 HAS.out.2.2.2.symm
                  have HP := Lib.hid (pick_any wr rb mv2 P2 HH2.out.lies HH2.out.ok)
                  rw [hpv] at HP
                  have HX := Lib.hid (And.intro hx1 (And.intro hpl (And.intro hsi2 hgot2)))
                  obtain ⟨xi, hxi⟩ : ∃ xi, x.2.id = xi := ⟨_, rfl⟩
                  rw [hxi] at HP
                  have HXI := Lib.hid hxi
                  clear hx hpv hx1 hpl hsi2 hgot2 hxi
                  go_wp2_with fail
                  refine HP.out.mono ?_
                  intro e w8 hm
                  obtain ⟨mv8, hv, h8, a8, g8⟩ := HH2.out.mut hm HH2.out.ok.pick
                  obtain rfl := hv
                  obtain ⟨A8, b8⟩ := HASD.out.mut a8 g8
                  have H8 := Lib.hid h8
                  have HA8 := Lib.hid A8
                  have HBOX8 := Lib.hid ((b8 N7 rfl).trans HBOX.out)
                  have n0 : w8.cell? ⟨N7, 0, none⟩ = some (.int .i64 p1) := by simp [World.cell?, HBOX8.out]
                  clear hm h8 a8 g8 A8 b8
                  by_cases hid : xi = p1
                  · have v1 : ((xi : Int) == (p1 : Int)) = true := beq_iff_eq.2 (by omega)
                    subst hid
                    go_wp2_with fail
                    refine (HAW.out _).mono ?_
                    rintro e w9 ⟨rfl, hb⟩
                    have HB9 := Lib.hid (H8.out.below hb)
                    clear hb
                    go_wp2
                    go_ret
                    exact ⟨rfl, by rw [HRB.out]; exact HB9.out.bel⟩

                  · have v1 : ((xi : Int) == (p1 : Int)) = false := beq_eq_false_iff_ne.2 (by omega)
                    have HNEW : Hid (∀ b, (plainA S2).2.l[q]? = some b → b.n = a.n) := fun b hb => by
                      rw [HX.out.2.1] at hb
                      have hne : x.1 ≠ q := fun e => by
                        have h1 := HX.out.1
                        rw [e] at h1
                        have := (HSI.out.at_ HAS.out.1 h1).id
                        have h2 := HAS.out.2.1
                        have h3 := HXI.out
                        omega
                      rw [List.getElem?_set_ne hne] at hb
                      exact HSAME.out b hb
                    have HG9 := Lib.hid HG2.out.pick
                    clear hid
                    go_wp2_with fail
                    go_roundg (T + 1 - (t + 1))
                    case measure => have := HGM.out; omega
                    case rel => exact ⟨t + 1, mv8, _, _, by omega, rfl, by go_num, H8.out, HG9.out, HX.out.2.2.1, by rw [HX.out.2.2.2, HGOT.out], HNEW.out, HBOX8.out, HA8.out⟩
                · exfalso
                  have hte : t = T + 1 := by omega
                  obtain ⟨b, hb, hbl⟩ := HSI.out.some_ HAS.out.1
                  have hw := wait_one HSI.out HGH.out.near HG2.out.near HAS.out.1 hb HAS.out.2.2.2.symm (HSAME.out b hb)
                  rw [HGOT.out, HC0.out, HS0.out, HCP.out.1, HCP.out.2, ← HAS.out.2.2.1, hte] at hw
                  have := HTT.out
                  rw [Nat.mul_comm] at hw
                  omega

    · have hltz : ¬ (i : Int) < (n : Int) := by omega
      have HME := Lib.hid (members_any wr rb mv P HH.out.lies HH.out.ok)
      go_wp2_with fail
      refine HME.out.mono ?_
      rintro e w5 ⟨v5, rfl, ht, hb⟩
      have H5 := Lib.hid (HH.out.below hb)
      have HON := Lib.hid (on_any w5 _ v5 P.l ht HH.out.ok.len (fun m hm => (HH.out.ok.mem hm).2.1))
      obtain ⟨g1, g2, g3⟩ := HGH.out.sums
      rw [g1, g2] at HON
      obtain ⟨c0, hc0⟩ : ∃ c0, cntOn S.l = c0 := ⟨_, rfl⟩
      obtain ⟨s0, hs0⟩ : ∃ s0, sumOn S.l = s0 := ⟨_, rfl⟩
      rw [hc0, hs0] at HON
      have HC0 := Lib.hid hc0
      have HS0 := Lib.hid hs0
      obtain ⟨b1, b2⟩ := sum_le (l := P.l) (fun m hm => (HH.out.ok.mem hm).2.1)
      have b3 := HH.out.ok.len
      rw [g1, g2, hc0, hs0] at b1
      rw [g1, hc0] at b2
      obtain ⟨bt, hbt, hbt1, hbt2, hbt3⟩ := ht
      subst hbt
      obtain ⟨nl, hnl⟩ : ∃ nl, P.l.length = nl := ⟨_, rfl⟩
      have HNLL := Lib.hid hnl
      rw [hnl] at b2 b3 HON ⊢
      have HTC := Lib.hid hbt3
      have HTL := Lib.hid hbt2
      have HTB := Lib.hid hbt1
      have HW5 := Lib.hid hb.size
      clear hb hbt1 hbt2 hbt3 hnl g1 g2 g3 hc0 hs0
      go_wp2_with fail
      refine HON.out.mono ?_
      rintro e w6 ⟨rfl, hb⟩
      have H6 := Lib.hid (H5.out.below hb)
      have HB6 := Lib.hid hb
      clear hb

      by_cases h0 : nl = 0
      · have r0 : ((nl : Int) == 0) = true := beq_iff_eq.2 (by omega)
        clear h0 b1 b2 b3
        go_wp2_with fail
        refine (HAW.out _).mono ?_
        rintro e w9 ⟨rfl, hb⟩
        have HB9 := Lib.hid (H6.out.below hb)
        clear hb
        go_wp2
        go_ret
        exact ⟨rfl, by rw [HRB.out]; exact HB9.out.bel⟩

      · have r0 : ((nl : Int) == 0) = false := beq_eq_false_iff_ne.2 (by omega)
        have r1 : ((nl : Int) != 0) = true := by simp; omega
        have hnp : 0 < nl := by omega
        obtain ⟨q, hq⟩ : ∃ q, who % nl = q := ⟨_, rfl⟩
        have hql : q < nl := by rw [← hq]; exact Nat.mod_lt _ hnp
        have r2 : (who : Int) % (nl : Int) = (q : Int) := by rw [← hq]; exact (Int.natCast_emod who nl).symm
        have r3 : (who : Int).tmod (nl : Int) = (q : Int) := by rw [← hq]; rfl
        have hqz : (q : Int) < (nl : Int) := by omega
        have hq0 : (0 : Int) ≤ (q : Int) := by omega
        obtain ⟨p, hp⟩ := ex_at (xs := P.l) (k := q) (by have := HNLL.out; omega)
        obtain ⟨z0, z1, z2⟩ := HTC.out q p hp
        have e6 := HB6.out.block bt HTL.out
        have t0 := (cell_same e6 _).trans z0
        have t1 := (cell_same e6 _).trans z1
        have t2 := (cell_same e6 _).trans z2
        have f3 := HH.out.ok.fit.pos p (List.mem_of_getElem? hp)
        have f4 := (HH.out.ok.mem (List.mem_of_getElem? hp)).2.1
        obtain ⟨a, ha, k1, k2, k3, _⟩ := HGH.out.at_ hp
        have HAS := Lib.hid (And.intro ha (And.intro k1 (And.intro k2 k3)))
        clear z0 z1 z2 e6 hp ha k1 k2 k3 hq
        obtain ⟨p1, p2, p3, p4⟩ := p
        simp only at t0 t1 t2 f3 f4 HAS
        cases p4 with
        | false =>
          clear h0 b1 b2 b3
          go_wp2_with fail
          refine (HAW.out _).mono ?_
          rintro e w9 ⟨rfl, hb⟩
          have HB9 := Lib.hid ((H6.out.below ((Below.refl _ w6).alloc (Nat.le_refl _) _)).below hb)
          clear hb
          go_wp2
          go_ret
          exact ⟨rfl, by rw [HRB.out]; exact HB9.out.bel⟩

        | true =>
          have hc1 : 1 ≤ c0 := by
            obtain ⟨ha, _, _, k3⟩ := HAS.out
            have := (sum_mem (List.mem_of_getElem? ha) k3.symm).2
            have := HC0.out
            omega
          obtain ⟨c1, hc1'⟩ : ∃ c1, c0 - 1 = c1 := ⟨_, rfl⟩
          obtain ⟨pr, hpr⟩ : ∃ pr, c1 * s0 = pr := ⟨_, rfl⟩
          obtain ⟨T, hT⟩ : ∃ T, pr / p2 = T := ⟨_, rfl⟩
          have hprl : pr ≤ 1024000 := by
            rw [← hpr]
            have : c1 * s0 ≤ 32 * 32000 := Nat.mul_le_mul (by omega) (by omega)
            omega
          have hTl : T ≤ 1024000 := by rw [← hT]; exact Nat.le_trans (Nat.div_le_self _ _) hprl
          have hTT := Nat.lt_mul_of_div_lt (show pr / p2 < T + 1 by omega) f3
          have HTT := Lib.hid hTT
          have u1 : (c0 : Int) - 1 = (c1 : Int) := by omega
          have u2 : (c1 : Int) * (s0 : Int) = (pr : Int) := by rw [← Int.natCast_mul, hpr]
          have u3 : (pr : Int) / (p2 : Int) = (T : Int) := by rw [← hT]; exact (Int.natCast_ediv pr p2).symm
          have u4 : (pr : Int).tdiv (p2 : Int) = (T : Int) := by rw [← hT]; rfl
          have u5 : ((p2 : Int) == 0) = false := beq_eq_false_iff_ne.2 (by omega)
          have u6 : ((p2 : Int) != 0) = true := by simp; omega
          have HCP := Lib.hid (And.intro hc1' hpr)
          have hc1l : c1 ≤ 32 := by omega
          have hs0l : s0 ≤ 32000 := by omega
          clear h0 b1 b2 b3 hc1 hc1' hpr hT hTT
          by_cases hbig : 20000 < T
          · have u7 : (20000 : Int) < (T : Int) := by omega
            go_wp2_with fail
            refine (HAW.out _).mono ?_
            rintro e w9 ⟨rfl, hb⟩
            have HB9 := Lib.hid ((H6.out.below ((Below.refl _ w6).alloc (Nat.le_refl _) _)).below hb)
            clear hb
            go_wp2
            go_ret
            exact ⟨rfl, by rw [HRB.out]; exact HB9.out.bel⟩

          · have u7 : ¬ (20000 : Int) < (T : Int) := by omega
            obtain ⟨N7, hN7⟩ : ∃ N7, w6.heap.size = N7 := ⟨_, rfl⟩
            go_wp2_with fail
            obtain ⟨w7, hw7⟩ : ∃ w7, w6.alloc (.cells #[.int .i64 p1, .int .i64 p2, .bool true] 44) = w7 := ⟨_, rfl⟩
            rw [hw7]
            have hb7 : Below w6.heap.size w6 w7 := by rw [← hw7]; exact (Below.refl _ w6).alloc (Nat.le_refl _) _
            have HN7 : Hid (w7.heap[N7]? = some (.cells #[.int .i64 p1, .int .i64 p2, .bool true] 44 (0, 0))) := by rw [← hw7]; exact alloc_block w6 _ hN7
            have H7 := Lib.hid (H6.out.below hb7)
            have HA7 : Hid (Aside (fun k => k = N7) w7 rb mv) := by rw [← hw7, ← hN7]; exact aside_new w6 rb mv _ H6.out.lies
            clear hb7 hw7 hN7 t0 t1 t2 u3 u4 r2 r3
            go_loopg [102] (T + 1) (fun gg st wr2 => ∃ (t : Nat) (mv' : Value) (P' S' : Rg), t ≤ T + 1 ∧ gg = T + 1 - t ∧ st = .int .i64 t ∧ Held rb W wr2 rb mv' P' ∧ Ghost S' P' ∧ Since S.l S'.l ∧ gotS S.l S'.l = t ∧ (∀ b, S'.l[q]? = some b → b.n = a.n) ∧ wr2.heap[N7]? = some (.cells #[.int .i64 p1, .int .i64 p2, .bool true] 44 (0, 0)) ∧ Aside (fun k => k = N7) wr2 rb mv')
            case atStart => exact ⟨0, mv, P, S, Nat.zero_le _, by omega, rfl, H7.out, HGH.out, Since.refl _, gotS_self _, fun b hb => by (have h2 := HAS.out.1; rw [h2] at hb; injection hb with hb; rw [hb]), HN7.out, HA7.out⟩
            case round =>
              obtain ⟨t, mv2, P2, S2, ht, hg, rfl, hh, hgh, hsi, hgot, hsame, hbox, haside⟩ := hrel
              have HH2 := Lib.hid hh
              have HG2 := Lib.hid hgh
              have HSI := Lib.hid hsi
              have HGOT := Lib.hid hgot
              have HSAME := Lib.hid hsame
              have HBOX := Lib.hid hbox
              have HASD := Lib.hid haside
              have HGM := Lib.hid hg
              clear hh hgh hsi hgot hsame hbox haside hg
              have ht0 : (0 : Int) ≤ (t : Int) := by omega
              by_cases hlt3 : t < T + 1
              · have hltz3 : (t : Int) < (T : Int) + 1 := by omega
                obtain ⟨x, hx, hpv, hx1, hpl, hsi2, hgot2⟩ := pick_on HG2.out HSI.out HAS.out.1 HAS.out.2.2.2.symm
                have HP := Lib.hid (pick_any wr rb mv2 P2 HH2.out.lies HH2.out.ok)
                rw [hpv] at HP
                have HX := Lib.hid (And.intro hx1 (And.intro hpl (And.intro hsi2 hgot2)))
                obtain ⟨xi, hxi⟩ : ∃ xi, x.2.id = xi := ⟨_, rfl⟩
                rw [hxi] at HP
                have HXI := Lib.hid hxi
                clear hx hpv hx1 hpl hsi2 hgot2 hxi
                go_wp2_with fail
                refine HP.out.mono ?_
                intro e w8 hm
                obtain ⟨mv8, hv, h8, a8, g8⟩ := HH2.out.mut hm HH2.out.ok.pick
                obtain rfl := hv
                obtain ⟨A8, b8⟩ := HASD.out.mut a8 g8
                have H8 := Lib.hid h8
                have HA8 := Lib.hid A8
                have HBOX8 := Lib.hid ((b8 N7 rfl).trans HBOX.out)
                have n0 : w8.cell? ⟨N7, 0, none⟩ = some (.int .i64 p1) := by simp [World.cell?, HBOX8.out]
                clear hm h8 a8 g8 A8 b8
                by_cases hid : xi = p1
                · have v1 : ((xi : Int) == (p1 : Int)) = true := beq_iff_eq.2 (by omega)
                  subst hid
                  go_wp2_with fail
                  refine (HAW.out _).mono ?_
                  rintro e w9 ⟨rfl, hb⟩
                  have HB9 := Lib.hid (H8.out.below hb)
                  clear hb
                  go_wp2
                  go_ret
                  exact ⟨rfl, by rw [HRB.out]; exact HB9.out.bel⟩

                · have v1 : ((xi : Int) == (p1 : Int)) = false := beq_eq_false_iff_ne.2 (by omega)
                  have HNEW : Hid (∀ b, (plainA S2).2.l[q]? = some b → b.n = a.n) := fun b hb => by
                    rw [HX.out.2.1] at hb
                    have hne : x.1 ≠ q := fun e => by
                      have h1 := HX.out.1
                      rw [e] at h1
                      have := (HSI.out.at_ HAS.out.1 h1).id
                      have h2 := HAS.out.2.1
                      have h3 := HXI.out
                      omega
                    rw [List.getElem?_set_ne hne] at hb
                    exact HSAME.out b hb
                  have HG9 := Lib.hid HG2.out.pick
                  clear hid
                  go_wp2_with fail
                  go_roundg (T + 1 - (t + 1))
                  case measure => have := HGM.out; omega
                  case rel => exact ⟨t + 1, mv8, _, _, by omega, rfl, by go_num, H8.out, HG9.out, HX.out.2.2.1, by rw [HX.out.2.2.2, HGOT.out], HNEW.out, HBOX8.out, HA8.out⟩
              · exfalso
                have hte : t = T + 1 := by omega
                obtain ⟨b, hb, hbl⟩ := HSI.out.some_ HAS.out.1
                have hw := wait_one HSI.out HGH.out.near HG2.out.near HAS.out.1 hb HAS.out.2.2.2.symm (HSAME.out b hb)
                rw [HGOT.out, HC0.out, HS0.out, HCP.out.1, HCP.out.2, ← HAS.out.2.2.1, hte] at hw
                have := HTT.out
                rw [Nat.mul_comm] at hw
                omega
end Go.Proofs.Ytanchjcifhbllaa
