/-
  Nobody's lead is above one tick by its weight, whatever was called.
  Conditions: none beyond the argument's own reading.
-/
import Derived.Test.YtanchjcifhbllaaActs
set_option linter.unusedVariables false
namespace Go.Proofs.Ytanchjcifhbllaa
open Go.RowKit

set_option maxRecDepth 100000 in
set_option maxHeartbeats 8000000 in
theorem near_law (v : Value) (acts : List ActH) (W : World) (hA : ActsAt W v acts) (hok : ∀ a ∈ acts, ActOk a) : Calls Try.prog 4 #[v] W (RetB (.bool true) W) := by
  have HAW := Lib.hid awake_any
  have HNL := Lib.hid new_lit
  have HOK := Lib.hid hok
  obtain ⟨A, c, rfl, hlen, hat⟩ := hA
  have HAT := Lib.hid hat
  obtain ⟨n, hn⟩ : ∃ n, acts.length = n := ⟨_, rfl⟩
  have HN := Lib.hid hn
  rw [hn] at hlen ⊢
  clear hok hat hn
  go_enter Try.func4, Try.ntmps4
  go_wp2_with fail
  refine (HNL.out _).mono ?_
  intro e w1 hnew
  obtain ⟨rfl, hh⟩ := held_new hnew (by decide) (by decide)
  clear hnew
  obtain ⟨rb, hrb⟩ : ∃ rb, W.heap.size = rb := ⟨_, rfl⟩
  have HRB := Lib.hid hrb
  rw [hrb] at hh ⊢
  have H1 := Lib.hid hh
  clear hh hrb
  go_wp2_with fail
  go_loopg [5] n (fun gg so wr => ∃ (i : Nat) (mv : Value) (P S : Rg), i ≤ n ∧ gg = n - i ∧ so = .int .i64 i ∧ Held rb W wr rb mv P ∧ Ghost S P)
  case atStart => exact ⟨0, _, _, _, Nat.zero_le _, by omega, rfl, H1.out, ghost_new 2048 (by decide) (by decide)⟩
  case round =>
    obtain ⟨i, mv, P, S, hi, hg, rfl, hh, hgh⟩ := hrel
    have HH := Lib.hid hh
    have HGH := Lib.hid hgh
    have HG := Lib.hid hg
    clear hh hgh hg
    have hi0 : (0 : Int) ≤ (i : Int) := by omega
    by_cases hlt : i < n
    · have hltz : (i : Int) < (n : Int) := by omega
      by_cases hl6 : i < 60
      · have hl7 : (i : Int) < 60 := by omega
        obtain ⟨b, off, hA, hbl, hcells⟩ := HAT.out (by have := HN.out; omega)
        subst hA
        obtain ⟨y, hy⟩ := ex_at (xs := acts) (k := i) (by have := HN.out; omega)
        have hnu := HOK.out y (List.mem_of_getElem? hy)
        have HCELL : Hid (∀ w', Below rb W w' → ActAt w' b (off + i * 4) y) := fun w' hb => (hcells i y hy).keep hb (by have := HRB.out; omega)
        obtain ⟨x0, x1, x2, x3⟩ := HCELL.out wr HH.out.bel
        obtain ⟨kd, id, w, nu⟩ := y
        unfold ActOk at hnu
        simp only at x0 x1 x2 x3 hnu
        clear hcells hy
        have HC := Lib.hid (call_any wr rb mv P kd id w nu HH.out.lies HH.out.ok)
        go_wp2_with fail
        refine HC.out.mono ?_
        intro e w2 hm
        obtain ⟨mv2, hv, h2, ha2, hg2⟩ := HH.out.mut hm (HH.out.ok.call kd id w)
        obtain rfl := hv
        have H2 := Lib.hid h2
        have G2 := Lib.hid (HGH.out.call kd id w)
        clear hm h2 ha2 hg2 x0 x1 x2 x3
        obtain ⟨x0, x1, x2, x3⟩ := HCELL.out w2 H2.out.bel
        go_wp2_with fail
        go_loopg [6] nu (fun gg sp wr2 => ∃ (k : Nat) (mv' : Value) (P' S' : Rg), k ≤ nu ∧ gg = nu - k ∧ sp = .int .i64 k ∧ Held rb W wr2 rb mv' P' ∧ Ghost S' P')
        case atStart => exact ⟨0, mv2, _, _, Nat.zero_le _, by omega, rfl, H2.out, G2.out⟩
        case round =>
          obtain ⟨k, mv3, P3, S3, hk, hg, rfl, hh, hgh⟩ := hrel
          have H3 := Lib.hid hh
          have G3 := Lib.hid hgh
          have HG3 := Lib.hid hg
          clear hh hgh hg x0 x1 x2 x3
          obtain ⟨x0, x1, x2, x3⟩ := HCELL.out wr H3.out.bel
          simp only at x0 x1 x2 x3
          have hk0 : (0 : Int) ≤ (k : Int) := by omega
          by_cases hkd : kd = 5
          · have q5 : (kd == 5) = true := beq_iff_eq.2 hkd
            by_cases hlt2 : k < nu
            · have q6 : (k : Int) < (nu : Int) := by omega
              have HP := Lib.hid (pick_any wr rb mv3 P3 H3.out.lies H3.out.ok)
              clear hkd
              go_wp2_with fail
              refine HP.out.mono ?_
              intro e w4 hm
              obtain ⟨mv4, hv, h4, ha4, hg4⟩ := H3.out.mut hm H3.out.ok.pick
              obtain rfl := hv
              have H4 := Lib.hid h4
              have G4 := Lib.hid G3.out.pick
              clear hm h4 ha4 hg4
              go_wp2_with fail
              go_roundg (nu - (k + 1))
              case measure => have := HG3.out; omega
              case rel => exact ⟨k + 1, mv4, _, _, by omega, rfl, by go_num, H4.out, G4.out⟩
            · have q6 : ¬ (k : Int) < (nu : Int) := by omega
              clear hkd
              have HME := Lib.hid (members_any wr rb mv3 P3 H3.out.lies H3.out.ok)
              go_wp2_with fail
              refine HME.out.mono ?_
              rintro e w5 ⟨v5, rfl, ht, hb⟩
              have H5 := Lib.hid (H3.out.below hb)
              obtain ⟨bt, hbt, hbt1, hbt2, hbt3⟩ := ht
              subst hbt
              obtain ⟨nl, hnl⟩ : ∃ nl, P3.l.length = nl := ⟨_, rfl⟩
              have HNLL := Lib.hid hnl
              rw [hnl]
              have HTC := Lib.hid hbt3
              have HTL := Lib.hid hbt2
              have hnl32 : nl ≤ 32 := by have := H3.out.ok.len; omega
              clear hb hbt1 hbt2 hbt3 hnl x0 x1 x2 x3
              go_wp2_with fail
              go_loopg [61] nl (fun gg sj wr3 => ∃ j : Nat, j ≤ nl ∧ gg = nl - j ∧ sj = .int .i64 j ∧ Below w5.heap.size w5 wr3)
              case atStart => exact ⟨0, Nat.zero_le _, by omega, rfl, Below.refl _ _⟩
              case round =>
                obtain ⟨j, hj, hg, rfl, hbw⟩ := hrel
                have HB6 := Lib.hid hbw
                have HG6 := Lib.hid hg
                clear hbw hg
                have hj0 : (0 : Int) ≤ (j : Int) := by omega
                by_cases hltj : j < nl
                · have hltjz : (j : Int) < (nl : Int) := by omega
                  obtain ⟨p, hp⟩ := ex_at (xs := P3.l) (k := j) (by have := HNLL.out; omega)
                  obtain ⟨z0, z1, z2⟩ := HTC.out j p hp
                  have e6 := HB6.out.block bt HTL.out
                  have t0 := (cell_same e6 _).trans z0
                  have t1 := (cell_same e6 _).trans z1
                  have t2 := (cell_same e6 _).trans z2
                  have H6 := Lib.hid (H5.out.below HB6.out)
                  obtain ⟨N7, hN7⟩ : ∃ N7, wr.heap.size = N7 := ⟨_, rfl⟩
                  obtain ⟨w7, hw7⟩ : ∃ w7, wr.alloc (.cells #[.int .i64 p.id, .int .i64 p.w, .bool p.on] 44) = w7 := ⟨_, rfl⟩
                  have hb7 : Below wr.heap.size wr w7 := by rw [← hw7]; exact (Below.refl _ wr).alloc (Nat.le_refl _) _
                  have HN7 : Hid (w7.heap[N7]? = some (.cells #[.int .i64 p.id, .int .i64 p.w, .bool p.on] 44 (0, 0))) := by rw [← hw7]; exact alloc_block wr _ hN7
                  have HB7 := Lib.hid (HB6.out.trans (hb7.mono HB6.out.size))
                  have HLD := Lib.hid (lead_any w7 rb mv3 P3 (p.id : Int) (H6.out.below hb7).lies H3.out.ok)
                  have hlo : leadO P3 (p.id : Int) = leadV P3 p := by
                    unfold leadO
                    rw [findK_at H3.out.ok.fit.srt hp]
                    simp only [memK_at hp]
                  rw [hlo] at HLD
                  have hmem := H3.out.ok.fit.mem p (List.mem_of_getElem? hp)
                  obtain ⟨f1, f2, f3, f4, f5⟩ := hmem
                  obtain ⟨fm, hfm, k1, k2, k3, k4⟩ := G3.out.at_ hp
                  have hfl := (H3.out.ok.frac).pos
                  have hlb : leadB P3 p = p.w * (floorN P3).2 := rfl
                  clear z0 z1 z2 e6 hb7 hlo
                  obtain ⟨p1, p2, p3, p4⟩ := p
                  obtain ⟨n0, n1, n2⟩ : w7.cell? ⟨N7, 0, none⟩ = some (.int .i64 p1) ∧ w7.cell? ⟨N7, 1, none⟩ = some (.int .i64 p2) ∧ w7.cell? ⟨N7, 2, none⟩ = some (.bool p4) := by
                    refine ⟨?_, ?_, ?_⟩ <;> simp [World.cell?, HN7.out]
                  have m0 : ∀ o, w7.frozen? ⟨N7, o, none⟩ = false := fun o => by simp [World.frozen?, HN7.out]
                  simp only at t0 t1 t2 f3 f4 k3 k4 hlb HLD hw7
                  have HKEEP : Hid (∀ w', Below w7.heap.size w7 w' → w'.cell? ⟨N7, 0, none⟩ = some (.int .i64 p1) ∧ w'.cell? ⟨N7, 1, none⟩ = some (.int .i64 p2) ∧ w'.cell? ⟨N7, 2, none⟩ = some (.bool p4)) := fun w' hb => by
                    have := keep_block HN7.out hb
                    refine ⟨?_, ?_, ?_⟩ <;> simp [World.cell?, this]
                  have HK := Lib.hid (And.intro k3 (And.intro k4 (And.intro hlb (And.intro hfl (And.intro f3 f4)))))
                  clear k1 k2 k3 k4 hlb hfl f1 f2 f3 f4 f5 hp hfm
                  go_wp2_with fail
                  clear n0 n1 n2 t0 t1 t2 hw7 hN7 m0
                  obtain ⟨k3, k4, hlb, hfl, f3, f4⟩ := HK.out
                  cases p4 with
                  | false =>
                    have hlv : leadV P3 ⟨p1, p2, p3, false⟩ = .tuple #[.int .u64 0, .int .u64 0, .bool false] := by unfold leadV; rw [if_neg (by simp)]
                    rw [hlv] at HLD
                    clear hlv f3 f4 k3 k4 hfl hlb
                    refine HLD.out.mono ?_
                    rintro e w8 ⟨rfl, hb⟩
                    obtain ⟨n0', n1', n2'⟩ := HKEEP.out w8 hb
                    have HB8 := Lib.hid (HB7.out.trans (hb.mono HB7.out.size))
                    clear hb
                    go_wp2_with fail
                    go_roundg (nl - (j + 1))
                    case measure => have := HG6.out; omega
                    case rel => exact ⟨j + 1, by omega, rfl, by go_num, HB8.out⟩
                  | true =>
                    obtain ⟨_, _, k5⟩ := k4 k3.symm
                    obtain ⟨q1, q2⟩ := lead_div k5 f3 (by rw [hlb]; exact Nat.mul_pos f3 hfl)
                    have hlv : leadV P3 ⟨p1, p2, p3, true⟩ = .tuple #[.int .u64 (quoN (leadA P3 ⟨p1, p2, p3, true⟩) (gOf (leadA P3 ⟨p1, p2, p3, true⟩) (leadB P3 ⟨p1, p2, p3, true⟩))), .int .u64 (quoN (leadB P3 ⟨p1, p2, p3, true⟩) (gOf (leadA P3 ⟨p1, p2, p3, true⟩) (leadB P3 ⟨p1, p2, p3, true⟩))), .bool true] := by unfold leadV; rw [if_pos rfl]
                    rw [hlv] at HLD
                    have hyb : quoN (leadB P3 ⟨p1, p2, p3, true⟩) (gOf (leadA P3 ⟨p1, p2, p3, true⟩) (leadB P3 ⟨p1, p2, p3, true⟩)) ≤ 1000000 := by
                      refine Nat.le_trans (Nat.div_le_self _ _) ?_
                      rw [hlb]
                      exact Nat.mul_le_mul f4 H3.out.ok.frac.den
                    generalize quoN (leadA P3 ⟨p1, p2, p3, true⟩) (gOf (leadA P3 ⟨p1, p2, p3, true⟩) (leadB P3 ⟨p1, p2, p3, true⟩)) = x at *
                    generalize quoN (leadB P3 ⟨p1, p2, p3, true⟩) (gOf (leadA P3 ⟨p1, p2, p3, true⟩) (leadB P3 ⟨p1, p2, p3, true⟩)) = y at *
                    obtain ⟨qd, hqd⟩ : ∃ qd, y / p2 = qd := ⟨_, rfl⟩
                    rw [hqd] at q1
                    have hql : qd ≤ 1000000 := by rw [← hqd]; exact Nat.le_trans (Nat.div_le_self _ _) hyb
                    have s1 : (y : Int) / (p2 : Int) = (qd : Int) := by rw [← hqd]; exact (Int.natCast_ediv y p2).symm
                    have s2 : (y : Int).tdiv (p2 : Int) = (qd : Int) := by rw [← hqd]; rfl
                    have s3 : ((y : Int) == 0) = false := beq_eq_false_iff_ne.2 (by omega)
                    have s4 : ((p2 : Int) == 0) = false := beq_eq_false_iff_ne.2 (by omega)
                    have s5 : ((p2 : Int) != 0) = true := by simp; omega
                    have s6 : IntKind.u64.wrap (p2 : Int) = (p2 : Int) := u64_small (by omega)
                    have s7 : IntKind.u64.wrap (qd : Int) = (qd : Int) := u64_small (by omega)
                    have s8 : ¬ ((qd : Int) < (x : Int)) := by omega
                    have s9 : ¬ (p2 = 0) := by omega
                    have s10 : ¬ (y = 0) := by omega
                    have s11 : ¬ (qd < x) := by omega
                    clear hlv f3 f4 k3 k4 k5 hfl hlb q1 q2 hqd hyb hql
                    refine HLD.out.mono ?_
                    rintro e w8 ⟨rfl, hb⟩
                    obtain ⟨n0', n1', n2'⟩ := HKEEP.out w8 hb
                    have HB8 := Lib.hid (HB7.out.trans (hb.mono HB7.out.size))
                    clear hb
                    go_wp2_with fail
                    go_roundg (nl - (j + 1))
                    case measure => have := HG6.out; omega
                    case rel => exact ⟨j + 1, by omega, rfl, by go_num, HB8.out⟩
                · have hltjz : ¬ (j : Int) < (nl : Int) := by omega
                  have H9 := Lib.hid (H5.out.below HB6.out)
                  go_wp2_with fail
                  go_roundg (n - (i + 1))
                  case measure => have := HG.out; omega
                  case rel => exact ⟨i + 1, mv3, _, _, by omega, rfl, by go_num, H9.out, G3.out⟩

          · have q5 : (kd == 5) = false := beq_eq_false_iff_ne.2 hkd
            clear hkd
            have HME := Lib.hid (members_any wr rb mv3 P3 H3.out.lies H3.out.ok)
            go_wp2_with fail
            refine HME.out.mono ?_
            rintro e w5 ⟨v5, rfl, ht, hb⟩
            have H5 := Lib.hid (H3.out.below hb)
            obtain ⟨bt, hbt, hbt1, hbt2, hbt3⟩ := ht
            subst hbt
            obtain ⟨nl, hnl⟩ : ∃ nl, P3.l.length = nl := ⟨_, rfl⟩
            have HNLL := Lib.hid hnl
            rw [hnl]
            have HTC := Lib.hid hbt3
            have HTL := Lib.hid hbt2
            have hnl32 : nl ≤ 32 := by have := H3.out.ok.len; omega
            clear hb hbt1 hbt2 hbt3 hnl x0 x1 x2 x3
            go_wp2_with fail
            go_loopg [61] nl (fun gg sj wr3 => ∃ j : Nat, j ≤ nl ∧ gg = nl - j ∧ sj = .int .i64 j ∧ Below w5.heap.size w5 wr3)
            case atStart => exact ⟨0, Nat.zero_le _, by omega, rfl, Below.refl _ _⟩
            case round =>
              obtain ⟨j, hj, hg, rfl, hbw⟩ := hrel
              have HB6 := Lib.hid hbw
              have HG6 := Lib.hid hg
              clear hbw hg
              have hj0 : (0 : Int) ≤ (j : Int) := by omega
              by_cases hltj : j < nl
              · have hltjz : (j : Int) < (nl : Int) := by omega
                obtain ⟨p, hp⟩ := ex_at (xs := P3.l) (k := j) (by have := HNLL.out; omega)
                obtain ⟨z0, z1, z2⟩ := HTC.out j p hp
                have e6 := HB6.out.block bt HTL.out
                have t0 := (cell_same e6 _).trans z0
                have t1 := (cell_same e6 _).trans z1
                have t2 := (cell_same e6 _).trans z2
                have H6 := Lib.hid (H5.out.below HB6.out)
                obtain ⟨N7, hN7⟩ : ∃ N7, wr.heap.size = N7 := ⟨_, rfl⟩
                obtain ⟨w7, hw7⟩ : ∃ w7, wr.alloc (.cells #[.int .i64 p.id, .int .i64 p.w, .bool p.on] 44) = w7 := ⟨_, rfl⟩
                have hb7 : Below wr.heap.size wr w7 := by rw [← hw7]; exact (Below.refl _ wr).alloc (Nat.le_refl _) _
                have HN7 : Hid (w7.heap[N7]? = some (.cells #[.int .i64 p.id, .int .i64 p.w, .bool p.on] 44 (0, 0))) := by rw [← hw7]; exact alloc_block wr _ hN7
                have HB7 := Lib.hid (HB6.out.trans (hb7.mono HB6.out.size))
                have HLD := Lib.hid (lead_any w7 rb mv3 P3 (p.id : Int) (H6.out.below hb7).lies H3.out.ok)
                have hlo : leadO P3 (p.id : Int) = leadV P3 p := by
                  unfold leadO
                  rw [findK_at H3.out.ok.fit.srt hp]
                  simp only [memK_at hp]
                rw [hlo] at HLD
                have hmem := H3.out.ok.fit.mem p (List.mem_of_getElem? hp)
                obtain ⟨f1, f2, f3, f4, f5⟩ := hmem
                obtain ⟨fm, hfm, k1, k2, k3, k4⟩ := G3.out.at_ hp
                have hfl := (H3.out.ok.frac).pos
                have hlb : leadB P3 p = p.w * (floorN P3).2 := rfl
                clear z0 z1 z2 e6 hb7 hlo
                obtain ⟨p1, p2, p3, p4⟩ := p
                obtain ⟨n0, n1, n2⟩ : w7.cell? ⟨N7, 0, none⟩ = some (.int .i64 p1) ∧ w7.cell? ⟨N7, 1, none⟩ = some (.int .i64 p2) ∧ w7.cell? ⟨N7, 2, none⟩ = some (.bool p4) := by
                  refine ⟨?_, ?_, ?_⟩ <;> simp [World.cell?, HN7.out]
                have m0 : ∀ o, w7.frozen? ⟨N7, o, none⟩ = false := fun o => by simp [World.frozen?, HN7.out]
                simp only at t0 t1 t2 f3 f4 k3 k4 hlb HLD hw7
                have HKEEP : Hid (∀ w', Below w7.heap.size w7 w' → w'.cell? ⟨N7, 0, none⟩ = some (.int .i64 p1) ∧ w'.cell? ⟨N7, 1, none⟩ = some (.int .i64 p2) ∧ w'.cell? ⟨N7, 2, none⟩ = some (.bool p4)) := fun w' hb => by
                  have := keep_block HN7.out hb
                  refine ⟨?_, ?_, ?_⟩ <;> simp [World.cell?, this]
                have HK := Lib.hid (And.intro k3 (And.intro k4 (And.intro hlb (And.intro hfl (And.intro f3 f4)))))
                clear k1 k2 k3 k4 hlb hfl f1 f2 f3 f4 f5 hp hfm
                go_wp2_with fail
                clear n0 n1 n2 t0 t1 t2 hw7 hN7 m0
                obtain ⟨k3, k4, hlb, hfl, f3, f4⟩ := HK.out
                cases p4 with
                | false =>
                  have hlv : leadV P3 ⟨p1, p2, p3, false⟩ = .tuple #[.int .u64 0, .int .u64 0, .bool false] := by unfold leadV; rw [if_neg (by simp)]
                  rw [hlv] at HLD
                  clear hlv f3 f4 k3 k4 hfl hlb
                  refine HLD.out.mono ?_
                  rintro e w8 ⟨rfl, hb⟩
                  obtain ⟨n0', n1', n2'⟩ := HKEEP.out w8 hb
                  have HB8 := Lib.hid (HB7.out.trans (hb.mono HB7.out.size))
                  clear hb
                  go_wp2_with fail
                  go_roundg (nl - (j + 1))
                  case measure => have := HG6.out; omega
                  case rel => exact ⟨j + 1, by omega, rfl, by go_num, HB8.out⟩
                | true =>
                  obtain ⟨_, _, k5⟩ := k4 k3.symm
                  obtain ⟨q1, q2⟩ := lead_div k5 f3 (by rw [hlb]; exact Nat.mul_pos f3 hfl)
                  have hlv : leadV P3 ⟨p1, p2, p3, true⟩ = .tuple #[.int .u64 (quoN (leadA P3 ⟨p1, p2, p3, true⟩) (gOf (leadA P3 ⟨p1, p2, p3, true⟩) (leadB P3 ⟨p1, p2, p3, true⟩))), .int .u64 (quoN (leadB P3 ⟨p1, p2, p3, true⟩) (gOf (leadA P3 ⟨p1, p2, p3, true⟩) (leadB P3 ⟨p1, p2, p3, true⟩))), .bool true] := by unfold leadV; rw [if_pos rfl]
                  rw [hlv] at HLD
                  have hyb : quoN (leadB P3 ⟨p1, p2, p3, true⟩) (gOf (leadA P3 ⟨p1, p2, p3, true⟩) (leadB P3 ⟨p1, p2, p3, true⟩)) ≤ 1000000 := by
                    refine Nat.le_trans (Nat.div_le_self _ _) ?_
                    rw [hlb]
                    exact Nat.mul_le_mul f4 H3.out.ok.frac.den
                  generalize quoN (leadA P3 ⟨p1, p2, p3, true⟩) (gOf (leadA P3 ⟨p1, p2, p3, true⟩) (leadB P3 ⟨p1, p2, p3, true⟩)) = x at *
                  generalize quoN (leadB P3 ⟨p1, p2, p3, true⟩) (gOf (leadA P3 ⟨p1, p2, p3, true⟩) (leadB P3 ⟨p1, p2, p3, true⟩)) = y at *
                  obtain ⟨qd, hqd⟩ : ∃ qd, y / p2 = qd := ⟨_, rfl⟩
                  rw [hqd] at q1
                  have hql : qd ≤ 1000000 := by rw [← hqd]; exact Nat.le_trans (Nat.div_le_self _ _) hyb
                  have s1 : (y : Int) / (p2 : Int) = (qd : Int) := by rw [← hqd]; exact (Int.natCast_ediv y p2).symm
                  have s2 : (y : Int).tdiv (p2 : Int) = (qd : Int) := by rw [← hqd]; rfl
                  have s3 : ((y : Int) == 0) = false := beq_eq_false_iff_ne.2 (by omega)
                  have s4 : ((p2 : Int) == 0) = false := beq_eq_false_iff_ne.2 (by omega)
                  have s5 : ((p2 : Int) != 0) = true := by simp; omega
                  have s6 : IntKind.u64.wrap (p2 : Int) = (p2 : Int) := u64_small (by omega)
                  have s7 : IntKind.u64.wrap (qd : Int) = (qd : Int) := u64_small (by omega)
                  have s8 : ¬ ((qd : Int) < (x : Int)) := by omega
                  have s9 : ¬ (p2 = 0) := by omega
                  have s10 : ¬ (y = 0) := by omega
                  have s11 : ¬ (qd < x) := by omega
                  clear hlv f3 f4 k3 k4 k5 hfl hlb q1 q2 hqd hyb hql
                  refine HLD.out.mono ?_
                  rintro e w8 ⟨rfl, hb⟩
                  obtain ⟨n0', n1', n2'⟩ := HKEEP.out w8 hb
                  have HB8 := Lib.hid (HB7.out.trans (hb.mono HB7.out.size))
                  clear hb
                  go_wp2_with fail
                  go_roundg (nl - (j + 1))
                  case measure => have := HG6.out; omega
                  case rel => exact ⟨j + 1, by omega, rfl, by go_num, HB8.out⟩
              · have hltjz : ¬ (j : Int) < (nl : Int) := by omega
                have H9 := Lib.hid (H5.out.below HB6.out)
                go_wp2_with fail
                go_roundg (n - (i + 1))
                case measure => have := HG.out; omega
                case rel => exact ⟨i + 1, mv3, _, _, by omega, rfl, by go_num, H9.out, G3.out⟩

      · have hl7 : ¬ (i : Int) < 60 := by omega
        go_wp2_with fail
        refine (HAW.out _).mono ?_
        rintro e w9 ⟨rfl, hb⟩
        have HB9 := Lib.hid (HH.out.below hb)
        clear hb
        go_wp2
        go_ret
        exact ⟨rfl, by rw [HRB.out]; exact HB9.out.bel⟩

    · have hltz : ¬ (i : Int) < (n : Int) := by omega
      go_wp2_with fail
      refine (HAW.out _).mono ?_
      rintro e w9 ⟨rfl, hb⟩
      have HB9 := Lib.hid (HH.out.below hb)
      clear hb
      go_wp2
      go_ret
      exact ⟨rfl, by rw [HRB.out]; exact HB9.out.bel⟩
end Go.Proofs.Ytanchjcifhbllaa
