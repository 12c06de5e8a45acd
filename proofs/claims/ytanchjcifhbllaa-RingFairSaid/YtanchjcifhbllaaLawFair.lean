/-
  Of picks with no other call between each one who is on gets its part by weight, but for as many picks as others are on.
  Conditions: none beyond the argument's own reading.
-/
import Derived.Test.YtanchjcifhbllaaGot
set_option linter.unusedVariables false
namespace Go.Proofs.Ytanchjcifhbllaa
open Go.RowKit Go.Maps

set_option maxRecDepth 100000 in
set_option maxHeartbeats 8000000 in
theorem fair_law (v : Value) (acts : List ActH) (pk : Nat) (W : World) (hA : ActsAt W v acts) (hok : ∀ a ∈ acts, ActOk a) (hpk : pk < 65536) : Calls Try.prog 5 #[v, .int .u16 pk] W (RetB (.bool true) W) := by
  have HAW := Lib.hid awake_any
  have HNL := Lib.hid new_lit
  have HOK := Lib.hid hok
  obtain ⟨A, c, rfl, hlen, hat⟩ := hA
  have HAT := Lib.hid hat
  obtain ⟨n, hn⟩ : ∃ n, acts.length = n := ⟨_, rfl⟩
  have HN := Lib.hid hn
  rw [hn] at hlen ⊢
  clear hok hat hn
  go_enter Try.func5, Try.ntmps5
  go_wp2_with fail
  refine (HNL.out _).mono ?_
  intro e w1 hnew
  obtain ⟨rfl, hh⟩ := held_new hnew (by decide) (by decide)
  clear hnew
  obtain ⟨rb, hrb⟩ : ∃ rb, W.heap.size = rb := ⟨_, rfl⟩
  have HRB := Lib.hid hrb
  rw [hrb] at hh ⊢
  have H1 := Lib.hid hh
  clear hh hrb
  go_wp2_with fail
  go_loopg [7] n (fun gg so wr => ∃ (i : Nat) (mv : Value) (P S : Rg), i ≤ n ∧ gg = n - i ∧ so = .int .i64 i ∧ Held rb W wr rb mv P ∧ Ghost S P)
  case atStart => exact ⟨0, _, _, _, Nat.zero_le _, by omega, rfl, H1.out, ghost_new 2048 (by decide) (by decide)⟩
  case round =>
    obtain ⟨i, mv, P, S, hi, hg, rfl, hh, hgh⟩ := hrel
    have HH := Lib.hid hh
    have HGH := Lib.hid hgh
    have HG := Lib.hid hg
    clear hh hgh hg
    have hi0 : (0 : Int) ≤ (i : Int) := by omega
    by_cases hlt : i < n
    · have hltz : (i : Int) < (n : Int) := by omega
      by_cases hl6 : i < 60
      · have hl7 : (i : Int) < 60 := by omega
        obtain ⟨b, off, hA, hbl, hcells⟩ := HAT.out (by have := HN.out; omega)
        subst hA
        obtain ⟨y, hy⟩ := ex_at (xs := acts) (k := i) (by have := HN.out; omega)
        have hnu := HOK.out y (List.mem_of_getElem? hy)
        have HCELL : Hid (∀ w', Below rb W w' → ActAt w' b (off + i * 4) y) := fun w' hb => (hcells i y hy).keep hb (by have := HRB.out; omega)
        obtain ⟨x0, x1, x2, x3⟩ := HCELL.out wr HH.out.bel
        obtain ⟨kd, id, w, nu⟩ := y
        unfold ActOk at hnu
        simp only at x0 x1 x2 x3 hnu
        clear hcells hy
        have HC := Lib.hid (call_any wr rb mv P kd id w nu HH.out.lies HH.out.ok)
        go_wp2_with fail
        refine HC.out.mono ?_
        intro e w2 hm
        obtain ⟨mv2, hv, h2, ha2, hg2⟩ := HH.out.mut hm (HH.out.ok.call kd id w)
        obtain rfl := hv
        have H2 := Lib.hid h2
        have G2 := Lib.hid (HGH.out.call kd id w)
        clear hm h2 ha2 hg2 x0 x1 x2 x3
        obtain ⟨x0, x1, x2, x3⟩ := HCELL.out w2 H2.out.bel
        go_wp2_with fail
        go_loopg [8] nu (fun gg sp wr2 => ∃ (k : Nat) (mv' : Value) (P' S' : Rg), k ≤ nu ∧ gg = nu - k ∧ sp = .int .i64 k ∧ Held rb W wr2 rb mv' P' ∧ Ghost S' P')
        case atStart => exact ⟨0, mv2, _, _, Nat.zero_le _, by omega, rfl, H2.out, G2.out⟩
        case round =>
          obtain ⟨k, mv3, P3, S3, hk, hg, rfl, hh, hgh⟩ := hrel
          have H3 := Lib.hid hh
          have G3 := Lib.hid hgh
          have HG3 := Lib.hid hg
          clear hh hgh hg x0 x1 x2 x3
          obtain ⟨x0, x1, x2, x3⟩ := HCELL.out wr H3.out.bel
          simp only at x0 x1 x2 x3
          have hk0 : (0 : Int) ≤ (k : Int) := by omega
          by_cases hkd : kd = 5
          · have q5 : (kd == 5) = true := beq_iff_eq.2 hkd
            by_cases hlt2 : k < nu
            · have q6 : (k : Int) < (nu : Int) := by omega
              have HP := Lib.hid (pick_any wr rb mv3 P3 H3.out.lies H3.out.ok)
              clear hkd
              go_wp2_with fail
              refine HP.out.mono ?_
              intro e w4 hm
              obtain ⟨mv4, hv, h4, ha4, hg4⟩ := H3.out.mut hm H3.out.ok.pick
              obtain rfl := hv
              have H4 := Lib.hid h4
              have G4 := Lib.hid G3.out.pick
              clear hm h4 ha4 hg4
              go_wp2_with fail
              go_roundg (nu - (k + 1))
              case measure => have := HG3.out; omega
              case rel => exact ⟨k + 1, mv4, _, _, by omega, rfl, by go_num, H4.out, G4.out⟩
            · have q6 : ¬ (k : Int) < (nu : Int) := by omega
              clear hkd
              go_wp2_with fail
              go_roundg (n - (i + 1))
              case measure => have := HG.out; omega
              case rel => exact ⟨i + 1, mv3, _, _, by omega, rfl, by go_num, H3.out, G3.out⟩

          · have q5 : (kd == 5) = false := beq_eq_false_iff_ne.2 hkd
            clear hkd
            go_wp2_with fail
            go_roundg (n - (i + 1))
            case measure => have := HG.out; omega
            case rel => exact ⟨i + 1, mv3, _, _, by omega, rfl, by go_num, H3.out, G3.out⟩

      · have hl7 : ¬ (i : Int) < 60 := by omega
        have HME := Lib.hid (members_any wr rb mv P HH.out.lies HH.out.ok)
        go_wp2_with fail
        refine HME.out.mono ?_
        rintro e w5 ⟨v5, rfl, ht, hb⟩
        have H5 := Lib.hid (HH.out.below hb)
        have HON := Lib.hid (on_any w5 _ v5 P.l ht HH.out.ok.len (fun m hm => (HH.out.ok.mem hm).2.1))
        obtain ⟨g1, g2, g3⟩ := HGH.out.sums
        rw [g1, g2] at HON
        obtain ⟨c0, hc0⟩ : ∃ c0, cntOn S.l = c0 := ⟨_, rfl⟩
        obtain ⟨s0, hs0⟩ : ∃ s0, sumOn S.l = s0 := ⟨_, rfl⟩
        rw [hc0, hs0] at HON
        have HC0 := Lib.hid hc0
        have HS0 := Lib.hid hs0
        obtain ⟨b1, b2⟩ := sum_le (l := P.l) (fun m hm => (HH.out.ok.mem hm).2.1)
        have b3 := HH.out.ok.len
        rw [g1, g2, hc0, hs0] at b1
        rw [g1, hc0] at b2
        obtain ⟨bt, hbt, hbt1, hbt2, hbt3⟩ := ht
        subst hbt
        obtain ⟨nl, hnl⟩ : ∃ nl, P.l.length = nl := ⟨_, rfl⟩
        have HNLL := Lib.hid hnl
        rw [hnl] at b2 b3 HON ⊢
        have HTC := Lib.hid hbt3
        have HTL := Lib.hid hbt2
        have HTB := Lib.hid hbt1
        have HW5 := Lib.hid hb.size
        clear hb hbt1 hbt2 hbt3 hnl g1 g2 g3 hc0 hs0
        go_wp2_with fail
        refine HON.out.mono ?_
        rintro e w6 ⟨rfl, hb⟩
        have H6 := Lib.hid (H5.out.below hb)
        have HB6 := Lib.hid hb
        clear hb

        obtain ⟨mb, hmb⟩ : ∃ mb, w6.heap.size = mb := ⟨_, rfl⟩
        obtain ⟨rr, hrr⟩ : ∃ rr, pk % 600 = rr := ⟨_, rfl⟩
        have hrl : rr < 600 := by rw [← hrr]; exact Nat.mod_lt _ (by decide)
        have HR6 := Lib.hid hrl
        have r2 : (pk : Int) % 600 = (rr : Int) := by rw [← hrr]; exact (Int.natCast_emod pk 600).symm
        have r3 : (pk : Int).tmod 600 = (rr : Int) := by rw [← hrr]; rfl
        have HMBB : Hid (rb ≤ mb) := by
          have h1 := H6.out.bel.size
          have h2 := H6.out.hS
          show _ ≤ _
          omega
        have HMBT : Hid (bt < mb) := by
          have h1 := HTL.out
          have h2 := HB6.out.size
          show _ < _
          omega
        have HB0 := Lib.hid (And.intro b1 (And.intro b2 b3))
        clear hrr
        obtain ⟨w7, hw7⟩ : ∃ w7, w6.alloc (.map #[] 0) = w7 := ⟨_, rfl⟩
        have hmk : (Instr.makeMap 52 none).run Try.prog w6 = .ok (.map (some mb)) w7 := by rw [← hw7, ← hmb]; rfl
        go_wp2_with fail
        have hb7 : Below w6.heap.size w6 w7 := by rw [← hw7]; exact (Below.refl _ w6).alloc (Nat.le_refl _) _
        have H7 := Lib.hid (H6.out.below hb7)
        have HGM7 : Hid (GotAt w7 mb 0 (fun _ => 0) (.map [])) := by rw [← hw7, ← hmb]; exact got_new w6
        have HAS7 : Hid (Aside (fun k => k = mb ∨ k = bt) w7 rb mv) := by
          have hmb7 : mb < w7.heap.size := by rw [← hw7, ← hmb]; simp
          intro k hk
          rcases hk with rfl | rfl
          · refine ⟨hmb7, fun hf => ?_⟩
            have h2 := (H6.out.foot hf).2
            omega
          · have h1 := HMBT.out
            refine ⟨by omega, fun hf => ?_⟩
            have h2 := (HH.out.foot hf).2
            have h3 := HTB.out
            omega
        have HTC7 : Hid (∀ (j : Nat) (m : Mb), P.l[j]? = some m → TellAt w7 bt (j * 3) m) := fun j m hj => by
          obtain ⟨y0, y1, y2⟩ := HTC.out j m hj
          have e := (hb7.block bt (by have h1 := HMBT.out; omega)).trans (HB6.out.block bt HTL.out)
          exact ⟨(cell_same e _).trans y0, (cell_same e _).trans y1, (cell_same e _).trans y2⟩
        clear hb7 hw7 hmb hmk
        go_loopg [13] rr (fun gg st wr2 => ∃ (t cn : Nat) (mv' : Value) (P' S' : Rg) (f' : Int → Nat) (D' : DataW Unit), 1 ≤ t ∧ t ≤ rr + 1 ∧ cn ≤ t ∧ gg = rr + 1 - t ∧ st = .int .i64 t ∧ Held rb W wr2 rb mv' P' ∧ Ghost S' P' ∧ Since S.l S'.l ∧ gotS S.l S'.l = (if c0 = 0 then 0 else t - 1) ∧ Gots S.l S'.l f' ∧ (∀ x, f' x ≤ t - 1) ∧ GotAt wr2 mb cn f' D' ∧ Aside (fun k => k = mb ∨ k = bt) wr2 rb mv' ∧ (∀ (j : Nat) (m : Mb), P.l[j]? = some m → TellAt wr2 bt (j * 3) m))
        case atStart => exact ⟨1, 0, mv, P, S, _, _, by omega, by omega, by omega, by omega, rfl, H7.out, HGH.out, Since.refl _, by (rw [gotS_self]; split <;> rfl), Gots.start _, fun x => Nat.le_refl _, HGM7.out, HAS7.out, HTC7.out⟩
        case round =>
          obtain ⟨t, cn, mv2, P2, S2, ff, D, ht1, ht2, hcn, hg, rfl, hh, hgh, hsi, hgot, hgf, hff, hgm, hasd, htc⟩ := hrel
          have HH2 := Lib.hid hh
          have HG2 := Lib.hid hgh
          have HSI := Lib.hid hsi
          have HGOT := Lib.hid hgot
          have HGF := Lib.hid hgf
          have HFF := Lib.hid hff
          have HGM := Lib.hid hgm
          have HASD := Lib.hid hasd
          have HTC2 := Lib.hid htc
          have HGT := Lib.hid hg
          have HT1 := Lib.hid ht1
          clear hh hgh hsi hgot hgf hff hgm hasd htc hg
          have ht0 : (0 : Int) ≤ (t : Int) := by omega
          by_cases hltt : t ≤ rr
          · have hltz3 : (t : Int) ≤ (rr : Int) := by omega
            by_cases hz : c0 = 0
            · obtain ⟨hpv, hpl⟩ := pick_off HG2.out (by rw [(HSI.out.sums).2, HC0.out]; exact hz)
              have HP := Lib.hid (pick_any wr rb mv2 P2 HH2.out.lies HH2.out.ok)
              rw [hpv] at HP
              have HPL := Lib.hid hpl
              have hcb : decide ((0 : Int) < (c0 : Int)) = false := decide_eq_false (by omega)
              have hcb2 : decide (0 < c0) = false := decide_eq_false (by omega)
              have HZ := Lib.hid hz
              clear hpv hpl hz
              go_wp2_with fail
              refine HP.out.mono ?_
              intro e w8 hm
              obtain ⟨mv9, hv, h8, a8, g8⟩ := HH2.out.mut hm HH2.out.ok.pick
              obtain rfl := hv
              obtain ⟨A8, b8⟩ := HASD.out.mut a8 g8
              have H8 := Lib.hid h8
              have HAS8 := Lib.hid A8
              have HGM8 := Lib.hid (HGM.out.keep (b8 mb (.inl rfl)))
              have HT8 := Lib.hid (b8 bt (.inr rfl))
              have L8 := HGM8.out.look (0) (by omega) (by omega)
              have HKEY := Lib.hid (key_int (0) (by omega) (by omega))
              obtain ⟨fx, hfx⟩ : ∃ fx, ff (0) = fx := ⟨_, rfl⟩
              rw [hfx] at L8
              have HFX := Lib.hid hfx
              have hfl : fx ≤ 600 := by have h9 := HFF.out (0); have h8 := HR6.out; omega
              have HWF := Lib.hid (wf_small (n := (fx : Int) + 1) (by omega) (by omega))
              clear hm h8 a8 g8 A8 b8 hfx
              go_wp2_with (at_mapUpdate; refine wpList_mapUpdate_own _ rfl _ _ _ 52 rfl 3 3 keyedInt Try.underlying52 _ mb cn D rfl HGM8.out.1 (by unfold maxLen; omega) _ _ (.int .i64 (0)) rfl rfl HKEY.out (.lit (.int .i64 ((fx : Int) + 1))) [] (plainElem_int Try.underlying3 HWF.out) ?_)
              intro w9 hown9 hg9
              have HML9 := Lib.hid hown9.lt
              have HNEW := Lib.hid hg9
              rw [← HFX.out] at hown9
              obtain ⟨D9, hD9⟩ : ∃ D9, D.put (.int .i64 (0)) (.lit (.int .i64 ((ff (0) : Int) + 1))) = D9 := ⟨_, rfl⟩
              obtain ⟨f9, hf9⟩ : ∃ f9, bump ff (0) = f9 := ⟨_, rfl⟩
              have HGM9 : Hid (GotAt w9 mb (cn + 1) f9 D9) := by
                have := HGM8.out.bump hown9
                rw [hD9, hf9] at this
                exact this
              have HF9 : Hid (∀ x, f9 x ≤ t) := fun x => by
                have h9 := bump_le HFF.out (0) x
                rw [hf9] at h9
                have h8 := HT1.out
                omega
              have HH9 : Hid (Held rb W w9 rb mv9 (pickA P2).2) := by
                have hne : ∀ k, Foot rb mv9 k → k ≠ mb := fun k hk e => (HAS8.out mb (.inl rfl)).2 (e ▸ hk)
                refine H8.out.keep ?_ fun k hk => hg9.block k (H8.out.foot hk).2 (fun e => hne k hk (Option.some.inj e))
                exact H8.out.bel.trans ⟨hg9.os, hg9.tape, hg9.output, hg9.size, fun k hk => hg9.block k (by have h7 := H8.out.hS; have h6 := H8.out.bel.size; omega) (fun e => by have h5 := HMBB.out; have h4 := Option.some.inj e; omega)⟩
              have HAS9 := Lib.hid (HAS8.out.more hg9.size)
              have HTL9 : Hid (bt < w9.heap.size) := by
                have h1 := (HAS8.out bt (.inr rfl)).1
                have h2 := hg9.size
                show _ < _
                omega
              have HTC9 : Hid (∀ (j : Nat) (m : Mb), P.l[j]? = some m → TellAt w9 bt (j * 3) m) := fun j m hj => by
                obtain ⟨y0, y1, y2⟩ := HTC2.out j m hj
                have e : w9.heap[bt]? = wr.heap[bt]? := (hg9.block bt (HAS8.out bt (.inr rfl)).1 (fun e => by have h5 := HMBT.out; have h4 := Option.some.inj e; omega)).trans HT8.out
                exact ⟨(cell_same e _).trans y0, (cell_same e _).trans y1, (cell_same e _).trans y2⟩
              clear hown9 hg9 L8 hfl hD9

              have HG9 : Hid (Ghost S2 (pickA P2).2) := by
                have h7 := HG2.out.pick
                rw [HPL.out] at h7
                exact h7
              have HSI9 := Lib.hid HSI.out
              have HGOT9 : Hid (gotS S.l S2.l = (if c0 = 0 then 0 else t)) := by
                have h7 := HGOT.out
                rw [if_pos HZ.out] at h7
                show _ = _
                rw [if_pos HZ.out]
                exact h7
              have HGF9 : Hid (Gots S.l S2.l f9) := by rw [← hf9]; exact HGF.out.none_ HGH.out.ids
              clear hf9
              go_wp2_with fail
              go_loopg [95] nl (fun gg sj wr3 => ∃ j : Nat, j ≤ nl ∧ gg = nl - j ∧ sj = .int .i64 j ∧ Below w9.heap.size w9 wr3)
              case atStart => exact ⟨0, Nat.zero_le _, by omega, rfl, Below.refl _ _⟩
              case round =>
                obtain ⟨j, hj, hgj, rfl, hbw⟩ := hrel
                have HBJ := Lib.hid hbw
                have HGJ := Lib.hid hgj
                clear hbw hgj
                have hj0 : (0 : Int) ≤ (j : Int) := by omega
                by_cases hltj : j < nl
                · have hltjz : (j : Int) < (nl : Int) := by omega
                  obtain ⟨p, hp⟩ := ex_at (xs := P.l) (k := j) (by have := HNLL.out; omega)
                  obtain ⟨z0, z1, z2⟩ := HTC9.out j p hp
                  have e6 := HBJ.out.block bt HTL9.out
                  have t0 := (cell_same e6 _).trans z0
                  have t1 := (cell_same e6 _).trans z1
                  have t2 := (cell_same e6 _).trans z2
                  have f3 := HH.out.ok.fit.pos p (List.mem_of_getElem? hp)
                  have f4 := (HH.out.ok.mem (List.mem_of_getElem? hp)).2.1
                  have f5 := (HH.out.ok.mem (List.mem_of_getElem? hp)).2.2.2
                  obtain ⟨a, ha, k1, k2, k3, _⟩ := HGH.out.at_ hp
                  obtain ⟨b, hb, hl⟩ := HSI9.out.some_ ha
                  have hgf := HGF9.out j a b ha hb
                  rw [← k1] at hgf
                  obtain ⟨gf, hgf'⟩ : ∃ gf, f9 (p.id : Int) = gf := ⟨_, rfl⟩
                  have hgl : gf ≤ 600 := by have h9 := HF9.out (p.id : Int); have h8 := HR6.out; omega
                  have L1 := HGM9.out.keep (HBJ.out.block mb HML9.out)
                  have L2 := (L1.keep (w' := wr.alloc (.cells #[.int .i64 p.id, .int .i64 p.w, .bool p.on] 44)) (((Below.refl _ wr).alloc (Nat.le_refl _) _).block mb (Nat.lt_of_lt_of_le HML9.out HBJ.out.size))).look (p.id : Int) (by omega) (by omega)
                  rw [hgf'] at L2 hgf
                  clear z0 z1 z2 e6 L1 hgf'
                  have HAS := Lib.hid (And.intro ha (And.intro hb (And.intro k2 (And.intro k3 hgf))))
                  have HLT := Lib.hid hl
                  clear ha hb k1 k2 k3 hgf hl hp
                  obtain ⟨p1, p2, p3, p4⟩ := p
                  simp only at t0 t1 t2 f3 f4 f5 HAS L2
                  cases p4 with
                  | false =>
                    have h00 : gf = 0 := by
                      obtain ⟨_, _, _, k3, k4⟩ := HAS.out
                      rw [k4, HLT.out.off k3.symm]
                      omega
                    rw [h00] at L2
                    clear h00
                    go_wp2_with fail
                    go_roundg (nl - (j + 1))
                    case measure => have := HGJ.out; omega
                    case rel => exact ⟨j + 1, by omega, rfl, by go_num, HBJ.out.alloc HBJ.out.size _⟩

                  | true =>
                    exfalso
                    obtain ⟨ha, hb, k2, k3, k4⟩ := HAS.out
                    have hc1 := (sum_mem (List.mem_of_getElem? ha) k3.symm).2
                    rw [HC0.out, HZ.out] at hc1
                    omega
                · have hltjz : ¬ (j : Int) < (nl : Int) := by omega
                  have HX9 := Lib.hid (HH9.out.below HBJ.out)
                  go_wp2_with fail
                  go_roundg (rr + 1 - (t + 1))
                  case measure => have := HGT.out; omega
                  case rel => exact ⟨t + 1, cn + 1, mv9, _, _, f9, D9, by omega, by omega, by omega, rfl, by go_num, HX9.out, HG9.out, HSI9.out, by rw [HGOT9.out, if_pos HZ.out, if_pos HZ.out], HGF9.out, fun x => by (have := HF9.out x; omega), HGM9.out.keep (HBJ.out.block mb HML9.out), HAS9.out.more HBJ.out.size, fun j2 m2 h2 => by (obtain ⟨y0, y1, y2⟩ := HTC9.out j2 m2 h2; have e := HBJ.out.block bt HTL9.out; exact ⟨(cell_same e _).trans y0, (cell_same e _).trans y1, (cell_same e _).trans y2⟩)⟩

            · obtain ⟨k0, a0, hk0, hk0o⟩ := cnt_pos (l := S.l) (by rw [HC0.out]; omega)
              obtain ⟨x, hx, hpv, hx1, hpl, hsi2, hgot2⟩ := pick_on HG2.out HSI.out hk0 hk0o
              have HP := Lib.hid (pick_any wr rb mv2 P2 HH2.out.lies HH2.out.ok)
              rw [hpv] at HP
              have hxid : x.2.id ≤ 200 := by
                obtain ⟨K, C, s1, s2, s3⟩ := HG2.out
                exact (s2.mem x.2 (List.mem_of_getElem? hx1)).2.1
              have HX := Lib.hid (And.intro hx1 (And.intro hpl (And.intro hsi2 hgot2)))
              obtain ⟨xi, hxi⟩ : ∃ xi, x.2.id = xi := ⟨_, rfl⟩
              rw [hxi] at HP hxid
              have HXI := Lib.hid hxi
              have hcb : decide ((0 : Int) < (c0 : Int)) = true := decide_eq_true (by omega)
              have hcb2 : decide (0 < c0) = true := decide_eq_true (by omega)
              have HZ := Lib.hid hz
              clear hx hpv hx1 hpl hsi2 hgot2 hxi hk0 hk0o hz
              go_wp2_with fail
              refine HP.out.mono ?_
              intro e w8 hm
              obtain ⟨mv9, hv, h8, a8, g8⟩ := HH2.out.mut hm HH2.out.ok.pick
              obtain rfl := hv
              obtain ⟨A8, b8⟩ := HASD.out.mut a8 g8
              have H8 := Lib.hid h8
              have HAS8 := Lib.hid A8
              have HGM8 := Lib.hid (HGM.out.keep (b8 mb (.inl rfl)))
              have HT8 := Lib.hid (b8 bt (.inr rfl))
              have L8 := HGM8.out.look ((xi : Int)) (by omega) (by omega)
              have HKEY := Lib.hid (key_int ((xi : Int)) (by omega) (by omega))
              obtain ⟨fx, hfx⟩ : ∃ fx, ff ((xi : Int)) = fx := ⟨_, rfl⟩
              rw [hfx] at L8
              have HFX := Lib.hid hfx
              have hfl : fx ≤ 600 := by have h9 := HFF.out ((xi : Int)); have h8 := HR6.out; omega
              have HWF := Lib.hid (wf_small (n := (fx : Int) + 1) (by omega) (by omega))
              clear hm h8 a8 g8 A8 b8 hfx
              go_wp2_with (at_mapUpdate; refine wpList_mapUpdate_own _ rfl _ _ _ 52 rfl 3 3 keyedInt Try.underlying52 _ mb cn D rfl HGM8.out.1 (by unfold maxLen; omega) _ _ (.int .i64 ((xi : Int))) rfl rfl HKEY.out (.lit (.int .i64 ((fx : Int) + 1))) [] (plainElem_int Try.underlying3 HWF.out) ?_)
              intro w9 hown9 hg9
              have HML9 := Lib.hid hown9.lt
              have HNEW := Lib.hid hg9
              rw [← HFX.out] at hown9
              obtain ⟨D9, hD9⟩ : ∃ D9, D.put (.int .i64 ((xi : Int))) (.lit (.int .i64 ((ff ((xi : Int)) : Int) + 1))) = D9 := ⟨_, rfl⟩
              obtain ⟨f9, hf9⟩ : ∃ f9, bump ff ((xi : Int)) = f9 := ⟨_, rfl⟩
              have HGM9 : Hid (GotAt w9 mb (cn + 1) f9 D9) := by
                have := HGM8.out.bump hown9
                rw [hD9, hf9] at this
                exact this
              have HF9 : Hid (∀ x, f9 x ≤ t) := fun x => by
                have h9 := bump_le HFF.out ((xi : Int)) x
                rw [hf9] at h9
                have h8 := HT1.out
                omega
              have HH9 : Hid (Held rb W w9 rb mv9 (pickA P2).2) := by
                have hne : ∀ k, Foot rb mv9 k → k ≠ mb := fun k hk e => (HAS8.out mb (.inl rfl)).2 (e ▸ hk)
                refine H8.out.keep ?_ fun k hk => hg9.block k (H8.out.foot hk).2 (fun e => hne k hk (Option.some.inj e))
                exact H8.out.bel.trans ⟨hg9.os, hg9.tape, hg9.output, hg9.size, fun k hk => hg9.block k (by have h7 := H8.out.hS; have h6 := H8.out.bel.size; omega) (fun e => by have h5 := HMBB.out; have h4 := Option.some.inj e; omega)⟩
              have HAS9 := Lib.hid (HAS8.out.more hg9.size)
              have HTL9 : Hid (bt < w9.heap.size) := by
                have h1 := (HAS8.out bt (.inr rfl)).1
                have h2 := hg9.size
                show _ < _
                omega
              have HTC9 : Hid (∀ (j : Nat) (m : Mb), P.l[j]? = some m → TellAt w9 bt (j * 3) m) := fun j m hj => by
                obtain ⟨y0, y1, y2⟩ := HTC2.out j m hj
                have e : w9.heap[bt]? = wr.heap[bt]? := (hg9.block bt (HAS8.out bt (.inr rfl)).1 (fun e => by have h5 := HMBT.out; have h4 := Option.some.inj e; omega)).trans HT8.out
                exact ⟨(cell_same e _).trans y0, (cell_same e _).trans y1, (cell_same e _).trans y2⟩
              clear hown9 hg9 L8 hfl hD9

              have HG9 := Lib.hid HG2.out.pick
              have HSI9 := Lib.hid HX.out.2.2.1
              have HGOT9 : Hid (gotS S.l (plainA S2).2.l = t) := by
                have h7 := HX.out.2.2.2
                rw [HGOT.out, if_neg HZ.out] at h7
                show _ = _
                have h8 := HT1.out
                omega
              have HGF9 : Hid (Gots S.l (plainA S2).2.l f9) := by
                rw [← hf9, HX.out.2.1, ← HXI.out]
                exact HGF.out.pick HSI.out HG2.out.pos.2 HX.out.1
              obtain ⟨b1, b2, b3⟩ := HB0.out
              clear hf9
              go_wp2_with fail
              go_loopg [95] nl (fun gg sj wr3 => ∃ j : Nat, j ≤ nl ∧ gg = nl - j ∧ sj = .int .i64 j ∧ Below w9.heap.size w9 wr3)
              case atStart => exact ⟨0, Nat.zero_le _, by omega, rfl, Below.refl _ _⟩
              case round =>
                obtain ⟨j, hj, hgj, rfl, hbw⟩ := hrel
                have HBJ := Lib.hid hbw
                have HGJ := Lib.hid hgj
                clear hbw hgj
                have hj0 : (0 : Int) ≤ (j : Int) := by omega
                by_cases hltj : j < nl
                · have hltjz : (j : Int) < (nl : Int) := by omega
                  obtain ⟨p, hp⟩ := ex_at (xs := P.l) (k := j) (by have := HNLL.out; omega)
                  obtain ⟨z0, z1, z2⟩ := HTC9.out j p hp
                  have e6 := HBJ.out.block bt HTL9.out
                  have t0 := (cell_same e6 _).trans z0
                  have t1 := (cell_same e6 _).trans z1
                  have t2 := (cell_same e6 _).trans z2
                  have f3 := HH.out.ok.fit.pos p (List.mem_of_getElem? hp)
                  have f4 := (HH.out.ok.mem (List.mem_of_getElem? hp)).2.1
                  have f5 := (HH.out.ok.mem (List.mem_of_getElem? hp)).2.2.2
                  obtain ⟨a, ha, k1, k2, k3, _⟩ := HGH.out.at_ hp
                  obtain ⟨b, hb, hl⟩ := HSI9.out.some_ ha
                  have hgf := HGF9.out j a b ha hb
                  rw [← k1] at hgf
                  obtain ⟨gf, hgf'⟩ : ∃ gf, f9 (p.id : Int) = gf := ⟨_, rfl⟩
                  have hgl : gf ≤ 600 := by have h9 := HF9.out (p.id : Int); have h8 := HR6.out; omega
                  have L1 := HGM9.out.keep (HBJ.out.block mb HML9.out)
                  have L2 := (L1.keep (w' := wr.alloc (.cells #[.int .i64 p.id, .int .i64 p.w, .bool p.on] 44)) (((Below.refl _ wr).alloc (Nat.le_refl _) _).block mb (Nat.lt_of_lt_of_le HML9.out HBJ.out.size))).look (p.id : Int) (by omega) (by omega)
                  rw [hgf'] at L2 hgf
                  clear z0 z1 z2 e6 L1 hgf'
                  have HAS := Lib.hid (And.intro ha (And.intro hb (And.intro k2 (And.intro k3 hgf))))
                  have HLT := Lib.hid hl
                  clear ha hb k1 k2 k3 hgf hl hp
                  obtain ⟨p1, p2, p3, p4⟩ := p
                  simp only at t0 t1 t2 f3 f4 f5 HAS L2
                  cases p4 with
                  | false =>
                    have h00 : gf = 0 := by
                      obtain ⟨_, _, _, k3, k4⟩ := HAS.out
                      rw [k4, HLT.out.off k3.symm]
                      omega
                    rw [h00] at L2
                    clear h00
                    go_wp2_with fail
                    go_roundg (nl - (j + 1))
                    case measure => have := HGJ.out; omega
                    case rel => exact ⟨j + 1, by omega, rfl, by go_num, HBJ.out.alloc HBJ.out.size _⟩
                  | true =>
                    obtain ⟨ha, hb, k2, k3, k4⟩ := HAS.out
                    have hfair := fair_one HSI9.out HGH.out.near HG9.out.near ha hb k3.symm
                    have hc1 := (sum_mem (List.mem_of_getElem? ha) k3.symm).2
                    rw [HC0.out, HS0.out, HGOT9.out, ← k4, ← k2] at hfair
                    rw [HC0.out] at hc1
                    obtain ⟨c1, hc1'⟩ : ∃ c1, c0 - 1 = c1 := ⟨_, rfl⟩
                    obtain ⟨pr, hpr⟩ : ∃ pr, c1 * s0 = pr := ⟨_, rfl⟩
                    obtain ⟨e1, he1⟩ : ∃ e1, gf * s0 = e1 := ⟨_, rfl⟩
                    obtain ⟨e2, he2⟩ : ∃ e2, p2 * t = e2 := ⟨_, rfl⟩
                    have hprl : pr ≤ 1024000 := by
                      rw [← hpr]
                      have : c1 * s0 ≤ 32 * 32000 := Nat.mul_le_mul (by omega) (by omega)
                      omega
                    have he1l : e1 ≤ 19200000 := by
                      rw [← he1]
                      have : gf * s0 ≤ 600 * 32000 := Nat.mul_le_mul hgl (by omega)
                      omega
                    have he2l : e2 ≤ 600000 := by
                      rw [← he2]
                      have := HR6.out
                      have : p2 * t ≤ 1000 * 600 := Nat.mul_le_mul f4 (by omega)
                      omega
                    have u1 : (c0 : Int) - 1 = (c1 : Int) := by omega
                    have u2 : (c1 : Int) * (s0 : Int) = (pr : Int) := by rw [← Int.natCast_mul, hpr]
                    have u3 : (gf : Int) * (s0 : Int) = (e1 : Int) := by rw [← Int.natCast_mul, he1]
                    have u4 : (p2 : Int) * (t : Int) = (e2 : Int) := by rw [← Int.natCast_mul, he2]
                    rw [u1, u2, u3, u4] at hfair
                    obtain ⟨dd, hdd⟩ : ∃ dd : Int, (e1 : Int) - (e2 : Int) = dd := ⟨_, rfl⟩
                    rw [hdd] at hfair
                    have v1 : ¬ ((pr : Int) < dd) := by omega
                    have v2 : ¬ ((pr : Int) < -dd) := by omega
                    have v3 : dd ≤ 20000000 := by omega
                    have v4 : -20000000 ≤ dd := by omega
                    clear ha hb k2 k3 k4 hfair hc1 hpr he1 he2 hc1'
                    go_wp2_with fail
                    go_roundg (nl - (j + 1))
                    case measure => have := HGJ.out; omega
                    case rel => exact ⟨j + 1, by omega, rfl, by go_num, HBJ.out.alloc HBJ.out.size _⟩
                · have hltjz : ¬ (j : Int) < (nl : Int) := by omega
                  have HX9 := Lib.hid (HH9.out.below HBJ.out)
                  go_wp2_with fail
                  go_roundg (rr + 1 - (t + 1))
                  case measure => have := HGT.out; omega
                  case rel => exact ⟨t + 1, cn + 1, mv9, _, _, f9, D9, by omega, by omega, by omega, rfl, by go_num, HX9.out, HG9.out, HSI9.out, by rw [HGOT9.out, if_neg HZ.out]; omega, HGF9.out, fun x => by (have := HF9.out x; omega), HGM9.out.keep (HBJ.out.block mb HML9.out), HAS9.out.more HBJ.out.size, fun j2 m2 h2 => by (obtain ⟨y0, y1, y2⟩ := HTC9.out j2 m2 h2; have e := HBJ.out.block bt HTL9.out; exact ⟨(cell_same e _).trans y0, (cell_same e _).trans y1, (cell_same e _).trans y2⟩)⟩

          · have hltz3 : ¬ (t : Int) ≤ (rr : Int) := by omega
            go_wp2_with fail
            refine (HAW.out _).mono ?_
            rintro e w9 ⟨rfl, hb⟩
            have HB9 := Lib.hid (HH2.out.below hb)
            clear hb
            go_wp2
            go_ret
            exact ⟨rfl, by rw [HRB.out]; exact HB9.out.bel⟩

    · have hltz : ¬ (i : Int) < (n : Int) := by omega
      have HME := Lib.hid (members_any wr rb mv P HH.out.lies HH.out.ok)
      go_wp2_with fail
      refine HME.out.mono ?_
      rintro e w5 ⟨v5, rfl, ht, hb⟩
      have H5 := Lib.hid (HH.out.below hb)
      have HON := Lib.hid (on_any w5 _ v5 P.l ht HH.out.ok.len (fun m hm => (HH.out.ok.mem hm).2.1))
      obtain ⟨g1, g2, g3⟩ := HGH.out.sums
      rw [g1, g2] at HON
      obtain ⟨c0, hc0⟩ : ∃ c0, cntOn S.l = c0 := ⟨_, rfl⟩
      obtain ⟨s0, hs0⟩ : ∃ s0, sumOn S.l = s0 := ⟨_, rfl⟩
      rw [hc0, hs0] at HON
      have HC0 := Lib.hid hc0
      have HS0 := Lib.hid hs0
      obtain ⟨b1, b2⟩ := sum_le (l := P.l) (fun m hm => (HH.out.ok.mem hm).2.1)
      have b3 := HH.out.ok.len
      rw [g1, g2, hc0, hs0] at b1
      rw [g1, hc0] at b2
      obtain ⟨bt, hbt, hbt1, hbt2, hbt3⟩ := ht
      subst hbt
      obtain ⟨nl, hnl⟩ : ∃ nl, P.l.length = nl := ⟨_, rfl⟩
      have HNLL := Lib.hid hnl
      rw [hnl] at b2 b3 HON ⊢
      have HTC := Lib.hid hbt3
      have HTL := Lib.hid hbt2
      have HTB := Lib.hid hbt1
      have HW5 := Lib.hid hb.size
      clear hb hbt1 hbt2 hbt3 hnl g1 g2 g3 hc0 hs0
      go_wp2_with fail
      refine HON.out.mono ?_
      rintro e w6 ⟨rfl, hb⟩
      have H6 := Lib.hid (H5.out.below hb)
      have HB6 := Lib.hid hb
      clear hb

      obtain ⟨mb, hmb⟩ : ∃ mb, w6.heap.size = mb := ⟨_, rfl⟩
      obtain ⟨rr, hrr⟩ : ∃ rr, pk % 600 = rr := ⟨_, rfl⟩
      have hrl : rr < 600 := by rw [← hrr]; exact Nat.mod_lt _ (by decide)
      have HR6 := Lib.hid hrl
      have r2 : (pk : Int) % 600 = (rr : Int) := by rw [← hrr]; exact (Int.natCast_emod pk 600).symm
      have r3 : (pk : Int).tmod 600 = (rr : Int) := by rw [← hrr]; rfl
      have HMBB : Hid (rb ≤ mb) := by
        have h1 := H6.out.bel.size
        have h2 := H6.out.hS
        show _ ≤ _
        omega
      have HMBT : Hid (bt < mb) := by
        have h1 := HTL.out
        have h2 := HB6.out.size
        show _ < _
        omega
      have HB0 := Lib.hid (And.intro b1 (And.intro b2 b3))
      clear hrr
      obtain ⟨w7, hw7⟩ : ∃ w7, w6.alloc (.map #[] 0) = w7 := ⟨_, rfl⟩
      have hmk : (Instr.makeMap 52 none).run Try.prog w6 = .ok (.map (some mb)) w7 := by rw [← hw7, ← hmb]; rfl
      go_wp2_with fail
      have hb7 : Below w6.heap.size w6 w7 := by rw [← hw7]; exact (Below.refl _ w6).alloc (Nat.le_refl _) _
      have H7 := Lib.hid (H6.out.below hb7)
      have HGM7 : Hid (GotAt w7 mb 0 (fun _ => 0) (.map [])) := by rw [← hw7, ← hmb]; exact got_new w6
      have HAS7 : Hid (Aside (fun k => k = mb ∨ k = bt) w7 rb mv) := by
        have hmb7 : mb < w7.heap.size := by rw [← hw7, ← hmb]; simp
        intro k hk
        rcases hk with rfl | rfl
        · refine ⟨hmb7, fun hf => ?_⟩
          have h2 := (H6.out.foot hf).2
          omega
        · have h1 := HMBT.out
          refine ⟨by omega, fun hf => ?_⟩
          have h2 := (HH.out.foot hf).2
          have h3 := HTB.out
          omega
      have HTC7 : Hid (∀ (j : Nat) (m : Mb), P.l[j]? = some m → TellAt w7 bt (j * 3) m) := fun j m hj => by
        obtain ⟨y0, y1, y2⟩ := HTC.out j m hj
        have e := (hb7.block bt (by have h1 := HMBT.out; omega)).trans (HB6.out.block bt HTL.out)
        exact ⟨(cell_same e _).trans y0, (cell_same e _).trans y1, (cell_same e _).trans y2⟩
      clear hb7 hw7 hmb hmk
      go_loopg [13] rr (fun gg st wr2 => ∃ (t cn : Nat) (mv' : Value) (P' S' : Rg) (f' : Int → Nat) (D' : DataW Unit), 1 ≤ t ∧ t ≤ rr + 1 ∧ cn ≤ t ∧ gg = rr + 1 - t ∧ st = .int .i64 t ∧ Held rb W wr2 rb mv' P' ∧ Ghost S' P' ∧ Since S.l S'.l ∧ gotS S.l S'.l = (if c0 = 0 then 0 else t - 1) ∧ Gots S.l S'.l f' ∧ (∀ x, f' x ≤ t - 1) ∧ GotAt wr2 mb cn f' D' ∧ Aside (fun k => k = mb ∨ k = bt) wr2 rb mv' ∧ (∀ (j : Nat) (m : Mb), P.l[j]? = some m → TellAt wr2 bt (j * 3) m))
      case atStart => exact ⟨1, 0, mv, P, S, _, _, by omega, by omega, by omega, by omega, rfl, H7.out, HGH.out, Since.refl _, by (rw [gotS_self]; split <;> rfl), Gots.start _, fun x => Nat.le_refl _, HGM7.out, HAS7.out, HTC7.out⟩
      case round =>
        obtain ⟨t, cn, mv2, P2, S2, ff, D, ht1, ht2, hcn, hg, rfl, hh, hgh, hsi, hgot, hgf, hff, hgm, hasd, htc⟩ := hrel
        have HH2 := Lib.hid hh
        have HG2 := Lib.hid hgh
        have HSI := Lib.hid hsi
        have HGOT := Lib.hid hgot
        have HGF := Lib.hid hgf
        have HFF := Lib.hid hff
        have HGM := Lib.hid hgm
        have HASD := Lib.hid hasd
        have HTC2 := Lib.hid htc
        have HGT := Lib.hid hg
        have HT1 := Lib.hid ht1
        clear hh hgh hsi hgot hgf hff hgm hasd htc hg
        have ht0 : (0 : Int) ≤ (t : Int) := by omega
        by_cases hltt : t ≤ rr
        · have hltz3 : (t : Int) ≤ (rr : Int) := by omega
          by_cases hz : c0 = 0
          · obtain ⟨hpv, hpl⟩ := pick_off HG2.out (by rw [(HSI.out.sums).2, HC0.out]; exact hz)
            have HP := Lib.hid (pick_any wr rb mv2 P2 HH2.out.lies HH2.out.ok)
            rw [hpv] at HP
            have HPL := Lib.hid hpl
            have hcb : decide ((0 : Int) < (c0 : Int)) = false := decide_eq_false (by omega)
            have hcb2 : decide (0 < c0) = false := decide_eq_false (by omega)
            have HZ := Lib.hid hz
            clear hpv hpl hz
            go_wp2_with fail
            refine HP.out.mono ?_
            intro e w8 hm
            obtain ⟨mv9, hv, h8, a8, g8⟩ := HH2.out.mut hm HH2.out.ok.pick
            obtain rfl := hv
            obtain ⟨A8, b8⟩ := HASD.out.mut a8 g8
            have H8 := Lib.hid h8
            have HAS8 := Lib.hid A8
            have HGM8 := Lib.hid (HGM.out.keep (b8 mb (.inl rfl)))
            have HT8 := Lib.hid (b8 bt (.inr rfl))
            have L8 := HGM8.out.look (0) (by omega) (by omega)
            have HKEY := Lib.hid (key_int (0) (by omega) (by omega))
            obtain ⟨fx, hfx⟩ : ∃ fx, ff (0) = fx := ⟨_, rfl⟩
            rw [hfx] at L8
            have HFX := Lib.hid hfx
            have hfl : fx ≤ 600 := by have h9 := HFF.out (0); have h8 := HR6.out; omega
            have HWF := Lib.hid (wf_small (n := (fx : Int) + 1) (by omega) (by omega))
            clear hm h8 a8 g8 A8 b8 hfx
            go_wp2_with (at_mapUpdate; refine wpList_mapUpdate_own _ rfl _ _ _ 52 rfl 3 3 keyedInt Try.underlying52 _ mb cn D rfl HGM8.out.1 (by unfold maxLen; omega) _ _ (.int .i64 (0)) rfl rfl HKEY.out (.lit (.int .i64 ((fx : Int) + 1))) [] (plainElem_int Try.underlying3 HWF.out) ?_)
            intro w9 hown9 hg9
            have HML9 := Lib.hid hown9.lt
            have HNEW := Lib.hid hg9
            rw [← HFX.out] at hown9
            obtain ⟨D9, hD9⟩ : ∃ D9, D.put (.int .i64 (0)) (.lit (.int .i64 ((ff (0) : Int) + 1))) = D9 := ⟨_, rfl⟩
            obtain ⟨f9, hf9⟩ : ∃ f9, bump ff (0) = f9 := ⟨_, rfl⟩
            have HGM9 : Hid (GotAt w9 mb (cn + 1) f9 D9) := by
              have := HGM8.out.bump hown9
              rw [hD9, hf9] at this
              exact this
            have HF9 : Hid (∀ x, f9 x ≤ t) := fun x => by
              have h9 := bump_le HFF.out (0) x
              rw [hf9] at h9
              have h8 := HT1.out
              omega
            have HH9 : Hid (Held rb W w9 rb mv9 (pickA P2).2) := by
              have hne : ∀ k, Foot rb mv9 k → k ≠ mb := fun k hk e => (HAS8.out mb (.inl rfl)).2 (e ▸ hk)
              refine H8.out.keep ?_ fun k hk => hg9.block k (H8.out.foot hk).2 (fun e => hne k hk (Option.some.inj e))
              exact H8.out.bel.trans ⟨hg9.os, hg9.tape, hg9.output, hg9.size, fun k hk => hg9.block k (by have h7 := H8.out.hS; have h6 := H8.out.bel.size; omega) (fun e => by have h5 := HMBB.out; have h4 := Option.some.inj e; omega)⟩
            have HAS9 := Lib.hid (HAS8.out.more hg9.size)
            have HTL9 : Hid (bt < w9.heap.size) := by
              have h1 := (HAS8.out bt (.inr rfl)).1
              have h2 := hg9.size
              show _ < _
              omega
            have HTC9 : Hid (∀ (j : Nat) (m : Mb), P.l[j]? = some m → TellAt w9 bt (j * 3) m) := fun j m hj => by
              obtain ⟨y0, y1, y2⟩ := HTC2.out j m hj
              have e : w9.heap[bt]? = wr.heap[bt]? := (hg9.block bt (HAS8.out bt (.inr rfl)).1 (fun e => by have h5 := HMBT.out; have h4 := Option.some.inj e; omega)).trans HT8.out
              exact ⟨(cell_same e _).trans y0, (cell_same e _).trans y1, (cell_same e _).trans y2⟩
            clear hown9 hg9 L8 hfl hD9

            have HG9 : Hid (Ghost S2 (pickA P2).2) := by
              have h7 := HG2.out.pick
              rw [HPL.out] at h7
              exact h7
            have HSI9 := Lib.hid HSI.out
            have HGOT9 : Hid (gotS S.l S2.l = (if c0 = 0 then 0 else t)) := by
              have h7 := HGOT.out
              rw [if_pos HZ.out] at h7
              show _ = _
              rw [if_pos HZ.out]
              exact h7
            have HGF9 : Hid (Gots S.l S2.l f9) := by rw [← hf9]; exact HGF.out.none_ HGH.out.ids
            clear hf9
            go_wp2_with fail
            go_loopg [95] nl (fun gg sj wr3 => ∃ j : Nat, j ≤ nl ∧ gg = nl - j ∧ sj = .int .i64 j ∧ Below w9.heap.size w9 wr3)
            case atStart => exact ⟨0, Nat.zero_le _, by omega, rfl, Below.refl _ _⟩
            case round =>
              obtain ⟨j, hj, hgj, rfl, hbw⟩ := hrel
              have HBJ := Lib.hid hbw
              have HGJ := Lib.hid hgj
              clear hbw hgj
              have hj0 : (0 : Int) ≤ (j : Int) := by omega
              by_cases hltj : j < nl
              · have hltjz : (j : Int) < (nl : Int) := by omega
                obtain ⟨p, hp⟩ := ex_at (xs := P.l) (k := j) (by have := HNLL.out; omega)
                obtain ⟨z0, z1, z2⟩ := HTC9.out j p hp
                have e6 := HBJ.out.block bt HTL9.out
                have t0 := (cell_same e6 _).trans z0
                have t1 := (cell_same e6 _).trans z1
                have t2 := (cell_same e6 _).trans z2
                have f3 := HH.out.ok.fit.pos p (List.mem_of_getElem? hp)
                have f4 := (HH.out.ok.mem (List.mem_of_getElem? hp)).2.1
                have f5 := (HH.out.ok.mem (List.mem_of_getElem? hp)).2.2.2
                obtain ⟨a, ha, k1, k2, k3, _⟩ := HGH.out.at_ hp
                obtain ⟨b, hb, hl⟩ := HSI9.out.some_ ha
                have hgf := HGF9.out j a b ha hb
                rw [← k1] at hgf
                obtain ⟨gf, hgf'⟩ : ∃ gf, f9 (p.id : Int) = gf := ⟨_, rfl⟩
                have hgl : gf ≤ 600 := by have h9 := HF9.out (p.id : Int); have h8 := HR6.out; omega
                have L1 := HGM9.out.keep (HBJ.out.block mb HML9.out)
                have L2 := (L1.keep (w' := wr.alloc (.cells #[.int .i64 p.id, .int .i64 p.w, .bool p.on] 44)) (((Below.refl _ wr).alloc (Nat.le_refl _) _).block mb (Nat.lt_of_lt_of_le HML9.out HBJ.out.size))).look (p.id : Int) (by omega) (by omega)
                rw [hgf'] at L2 hgf
                clear z0 z1 z2 e6 L1 hgf'
                have HAS := Lib.hid (And.intro ha (And.intro hb (And.intro k2 (And.intro k3 hgf))))
                have HLT := Lib.hid hl
                clear ha hb k1 k2 k3 hgf hl hp
                obtain ⟨p1, p2, p3, p4⟩ := p
                simp only at t0 t1 t2 f3 f4 f5 HAS L2
                cases p4 with
                | false =>
                  have h00 : gf = 0 := by
                    obtain ⟨_, _, _, k3, k4⟩ := HAS.out
                    rw [k4, HLT.out.off k3.symm]
                    omega
                  rw [h00] at L2
                  clear h00
                  go_wp2_with fail
                  go_roundg (nl - (j + 1))
                  case measure => have := HGJ.out; omega
                  case rel => exact ⟨j + 1, by omega, rfl, by go_num, HBJ.out.alloc HBJ.out.size _⟩

                | true =>
                  exfalso
                  obtain ⟨ha, hb, k2, k3, k4⟩ := HAS.out
                  have hc1 := (sum_mem (List.mem_of_getElem? ha) k3.symm).2
                  rw [HC0.out, HZ.out] at hc1
                  omega
              · have hltjz : ¬ (j : Int) < (nl : Int) := by omega
                have HX9 := Lib.hid (HH9.out.below HBJ.out)
                go_wp2_with fail
                go_roundg (rr + 1 - (t + 1))
                case measure => have := HGT.out; omega
                case rel => exact ⟨t + 1, cn + 1, mv9, _, _, f9, D9, by omega, by omega, by omega, rfl, by go_num, HX9.out, HG9.out, HSI9.out, by rw [HGOT9.out, if_pos HZ.out, if_pos HZ.out], HGF9.out, fun x => by (have := HF9.out x; omega), HGM9.out.keep (HBJ.out.block mb HML9.out), HAS9.out.more HBJ.out.size, fun j2 m2 h2 => by (obtain ⟨y0, y1, y2⟩ := HTC9.out j2 m2 h2; have e := HBJ.out.block bt HTL9.out; exact ⟨(cell_same e _).trans y0, (cell_same e _).trans y1, (cell_same e _).trans y2⟩)⟩

          · obtain ⟨k0, a0, hk0, hk0o⟩ := cnt_pos (l := S.l) (by rw [HC0.out]; omega)
            obtain ⟨x, hx, hpv, hx1, hpl, hsi2, hgot2⟩ := pick_on HG2.out HSI.out hk0 hk0o
            have HP := Lib.hid (pick_any wr rb mv2 P2 HH2.out.lies HH2.out.ok)
            rw [hpv] at HP
            have hxid : x.2.id ≤ 200 := by
              obtain ⟨K, C, s1, s2, s3⟩ := HG2.out
              exact (s2.mem x.2 (List.mem_of_getElem? hx1)).2.1
            have HX := Lib.hid (And.intro hx1 (And.intro hpl (And.intro hsi2 hgot2)))
            obtain ⟨xi, hxi⟩ : ∃ xi, x.2.id = xi := ⟨_, rfl⟩
            rw [hxi] at HP hxid
            have HXI := Lib.hid hxi
            have hcb : decide ((0 : Int) < (c0 : Int)) = true := decide_eq_true (by omega)
            have hcb2 : decide (0 < c0) = true := decide_eq_true (by omega)
            have HZ := Lib.hid hz
            clear hx hpv hx1 hpl hsi2 hgot2 hxi hk0 hk0o hz
            go_wp2_with fail
            refine HP.out.mono ?_
            intro e w8 hm
            obtain ⟨mv9, hv, h8, a8, g8⟩ := HH2.out.mut hm HH2.out.ok.pick
            obtain rfl := hv
            obtain ⟨A8, b8⟩ := HASD.out.mut a8 g8
            have H8 := Lib.hid h8
            have HAS8 := Lib.hid A8
            have HGM8 := Lib.hid (HGM.out.keep (b8 mb (.inl rfl)))
            have HT8 := Lib.hid (b8 bt (.inr rfl))
            have L8 := HGM8.out.look ((xi : Int)) (by omega) (by omega)
            have HKEY := Lib.hid (key_int ((xi : Int)) (by omega) (by omega))
            obtain ⟨fx, hfx⟩ : ∃ fx, ff ((xi : Int)) = fx := ⟨_, rfl⟩
            rw [hfx] at L8
            have HFX := Lib.hid hfx
            have hfl : fx ≤ 600 := by have h9 := HFF.out ((xi : Int)); have h8 := HR6.out; omega
            have HWF := Lib.hid (wf_small (n := (fx : Int) + 1) (by omega) (by omega))
            clear hm h8 a8 g8 A8 b8 hfx
            go_wp2_with (at_mapUpdate; refine wpList_mapUpdate_own _ rfl _ _ _ 52 rfl 3 3 keyedInt Try.underlying52 _ mb cn D rfl HGM8.out.1 (by unfold maxLen; omega) _ _ (.int .i64 ((xi : Int))) rfl rfl HKEY.out (.lit (.int .i64 ((fx : Int) + 1))) [] (plainElem_int Try.underlying3 HWF.out) ?_)
            intro w9 hown9 hg9
            have HML9 := Lib.hid hown9.lt
            have HNEW := Lib.hid hg9
            rw [← HFX.out] at hown9
            obtain ⟨D9, hD9⟩ : ∃ D9, D.put (.int .i64 ((xi : Int))) (.lit (.int .i64 ((ff ((xi : Int)) : Int) + 1))) = D9 := ⟨_, rfl⟩
            obtain ⟨f9, hf9⟩ : ∃ f9, bump ff ((xi : Int)) = f9 := ⟨_, rfl⟩
            have HGM9 : Hid (GotAt w9 mb (cn + 1) f9 D9) := by
              have := HGM8.out.bump hown9
              rw [hD9, hf9] at this
              exact this
            have HF9 : Hid (∀ x, f9 x ≤ t) := fun x => by
              have h9 := bump_le HFF.out ((xi : Int)) x
              rw [hf9] at h9
              have h8 := HT1.out
              omega
            have HH9 : Hid (Held rb W w9 rb mv9 (pickA P2).2) := by
              have hne : ∀ k, Foot rb mv9 k → k ≠ mb := fun k hk e => (HAS8.out mb (.inl rfl)).2 (e ▸ hk)
              refine H8.out.keep ?_ fun k hk => hg9.block k (H8.out.foot hk).2 (fun e => hne k hk (Option.some.inj e))
              exact H8.out.bel.trans ⟨hg9.os, hg9.tape, hg9.output, hg9.size, fun k hk => hg9.block k (by have h7 := H8.out.hS; have h6 := H8.out.bel.size; omega) (fun e => by have h5 := HMBB.out; have h4 := Option.some.inj e; omega)⟩
            have HAS9 := Lib.hid (HAS8.out.more hg9.size)
            have HTL9 : Hid (bt < w9.heap.size) := by
              have h1 := (HAS8.out bt (.inr rfl)).1
              have h2 := hg9.size
              show _ < _
              omega
            have HTC9 : Hid (∀ (j : Nat) (m : Mb), P.l[j]? = some m → TellAt w9 bt (j * 3) m) := fun j m hj => by
              obtain ⟨y0, y1, y2⟩ := HTC2.out j m hj
              have e : w9.heap[bt]? = wr.heap[bt]? := (hg9.block bt (HAS8.out bt (.inr rfl)).1 (fun e => by have h5 := HMBT.out; have h4 := Option.some.inj e; omega)).trans HT8.out
              exact ⟨(cell_same e _).trans y0, (cell_same e _).trans y1, (cell_same e _).trans y2⟩
            clear hown9 hg9 L8 hfl hD9

            have HG9 := Lib.hid HG2.out.pick
            have HSI9 := Lib.hid HX.out.2.2.1
            have HGOT9 : Hid (gotS S.l (plainA S2).2.l = t) := by
              have h7 := HX.out.2.2.2
              rw [HGOT.out, if_neg HZ.out] at h7
              show _ = _
              have h8 := HT1.out
              omega
            have HGF9 : Hid (Gots S.l (plainA S2).2.l f9) := by
              rw [← hf9, HX.out.2.1, ← HXI.out]
              exact HGF.out.pick HSI.out HG2.out.pos.2 HX.out.1
            obtain ⟨b1, b2, b3⟩ := HB0.out
            clear hf9
            go_wp2_with fail
            go_loopg [95] nl (fun gg sj wr3 => ∃ j : Nat, j ≤ nl ∧ gg = nl - j ∧ sj = .int .i64 j ∧ Below w9.heap.size w9 wr3)
            case atStart => exact ⟨0, Nat.zero_le _, by omega, rfl, Below.refl _ _⟩
            case round =>
              obtain ⟨j, hj, hgj, rfl, hbw⟩ := hrel
              have HBJ := Lib.hid hbw
              have HGJ := Lib.hid hgj
              clear hbw hgj
              have hj0 : (0 : Int) ≤ (j : Int) := by omega
              by_cases hltj : j < nl
              · have hltjz : (j : Int) < (nl : Int) := by omega
                obtain ⟨p, hp⟩ := ex_at (xs := P.l) (k := j) (by have := HNLL.out; omega)
                obtain ⟨z0, z1, z2⟩ := HTC9.out j p hp
                have e6 := HBJ.out.block bt HTL9.out
                have t0 := (cell_same e6 _).trans z0
                have t1 := (cell_same e6 _).trans z1
                have t2 := (cell_same e6 _).trans z2
                have f3 := HH.out.ok.fit.pos p (List.mem_of_getElem? hp)
                have f4 := (HH.out.ok.mem (List.mem_of_getElem? hp)).2.1
                have f5 := (HH.out.ok.mem (List.mem_of_getElem? hp)).2.2.2
                obtain ⟨a, ha, k1, k2, k3, _⟩ := HGH.out.at_ hp
                obtain ⟨b, hb, hl⟩ := HSI9.out.some_ ha
                have hgf := HGF9.out j a b ha hb
                rw [← k1] at hgf
                obtain ⟨gf, hgf'⟩ : ∃ gf, f9 (p.id : Int) = gf := ⟨_, rfl⟩
                have hgl : gf ≤ 600 := by have h9 := HF9.out (p.id : Int); have h8 := HR6.out; omega
                have L1 := HGM9.out.keep (HBJ.out.block mb HML9.out)
                have L2 := (L1.keep (w' := wr.alloc (.cells #[.int .i64 p.id, .int .i64 p.w, .bool p.on] 44)) (((Below.refl _ wr).alloc (Nat.le_refl _) _).block mb (Nat.lt_of_lt_of_le HML9.out HBJ.out.size))).look (p.id : Int) (by omega) (by omega)
                rw [hgf'] at L2 hgf
                clear z0 z1 z2 e6 L1 hgf'
                have HAS := Lib.hid (And.intro ha (And.intro hb (And.intro k2 (And.intro k3 hgf))))
                have HLT := Lib.hid hl
                clear ha hb k1 k2 k3 hgf hl hp
                obtain ⟨p1, p2, p3, p4⟩ := p
                simp only at t0 t1 t2 f3 f4 f5 HAS L2
                cases p4 with
                | false =>
                  have h00 : gf = 0 := by
                    obtain ⟨_, _, _, k3, k4⟩ := HAS.out
                    rw [k4, HLT.out.off k3.symm]
                    omega
                  rw [h00] at L2
                  clear h00
                  go_wp2_with fail
                  go_roundg (nl - (j + 1))
                  case measure => have := HGJ.out; omega
                  case rel => exact ⟨j + 1, by omega, rfl, by go_num, HBJ.out.alloc HBJ.out.size _⟩
                | true =>
                  obtain ⟨ha, hb, k2, k3, k4⟩ := HAS.out
                  have hfair := fair_one HSI9.out HGH.out.near HG9.out.near ha hb k3.symm
                  have hc1 := (sum_mem (List.mem_of_getElem? ha) k3.symm).2
                  rw [HC0.out, HS0.out, HGOT9.out, ← k4, ← k2] at hfair
                  rw [HC0.out] at hc1
                  obtain ⟨c1, hc1'⟩ : ∃ c1, c0 - 1 = c1 := ⟨_, rfl⟩
                  obtain ⟨pr, hpr⟩ : ∃ pr, c1 * s0 = pr := ⟨_, rfl⟩
                  obtain ⟨e1, he1⟩ : ∃ e1, gf * s0 = e1 := ⟨_, rfl⟩
                  obtain ⟨e2, he2⟩ : ∃ e2, p2 * t = e2 := ⟨_, rfl⟩
                  have hprl : pr ≤ 1024000 := by
                    rw [← hpr]
                    have : c1 * s0 ≤ 32 * 32000 := Nat.mul_le_mul (by omega) (by omega)
                    omega
                  have he1l : e1 ≤ 19200000 := by
                    rw [← he1]
                    have : gf * s0 ≤ 600 * 32000 := Nat.mul_le_mul hgl (by omega)
                    omega
                  have he2l : e2 ≤ 600000 := by
                    rw [← he2]
                    have := HR6.out
                    have : p2 * t ≤ 1000 * 600 := Nat.mul_le_mul f4 (by omega)
                    omega
                  have u1 : (c0 : Int) - 1 = (c1 : Int) := by omega
                  have u2 : (c1 : Int) * (s0 : Int) = (pr : Int) := by rw [← Int.natCast_mul, hpr]
                  have u3 : (gf : Int) * (s0 : Int) = (e1 : Int) := by rw [← Int.natCast_mul, he1]
                  have u4 : (p2 : Int) * (t : Int) = (e2 : Int) := by rw [← Int.natCast_mul, he2]
                  rw [u1, u2, u3, u4] at hfair
                  obtain ⟨dd, hdd⟩ : ∃ dd : Int, (e1 : Int) - (e2 : Int) = dd := ⟨_, rfl⟩
                  rw [hdd] at hfair
                  have v1 : ¬ ((pr : Int) < dd) := by omega
                  have v2 : ¬ ((pr : Int) < -dd) := by omega
                  have v3 : dd ≤ 20000000 := by omega
                  have v4 : -20000000 ≤ dd := by omega
                  clear ha hb k2 k3 k4 hfair hc1 hpr he1 he2 hc1'
                  go_wp2_with fail
                  go_roundg (nl - (j + 1))
                  case measure => have := HGJ.out; omega
                  case rel => exact ⟨j + 1, by omega, rfl, by go_num, HBJ.out.alloc HBJ.out.size _⟩
              · have hltjz : ¬ (j : Int) < (nl : Int) := by omega
                have HX9 := Lib.hid (HH9.out.below HBJ.out)
                go_wp2_with fail
                go_roundg (rr + 1 - (t + 1))
                case measure => have := HGT.out; omega
                case rel => exact ⟨t + 1, cn + 1, mv9, _, _, f9, D9, by omega, by omega, by omega, rfl, by go_num, HX9.out, HG9.out, HSI9.out, by rw [HGOT9.out, if_neg HZ.out]; omega, HGF9.out, fun x => by (have := HF9.out x; omega), HGM9.out.keep (HBJ.out.block mb HML9.out), HAS9.out.more HBJ.out.size, fun j2 m2 h2 => by (obtain ⟨y0, y1, y2⟩ := HTC9.out j2 m2 h2; have e := HBJ.out.block bt HTL9.out; exact ⟨(cell_same e _).trans y0, (cell_same e _).trans y1, (cell_same e _).trans y2⟩)⟩

        · have hltz3 : ¬ (t : Int) ≤ (rr : Int) := by omega
          go_wp2_with fail
          refine (HAW.out _).mono ?_
          rintro e w9 ⟨rfl, hb⟩
          have HB9 := Lib.hid (HH2.out.below hb)
          clear hb
          go_wp2
          go_ret
          exact ⟨rfl, by rw [HRB.out]; exact HB9.out.bel⟩
end Go.Proofs.Ytanchjcifhbllaa
