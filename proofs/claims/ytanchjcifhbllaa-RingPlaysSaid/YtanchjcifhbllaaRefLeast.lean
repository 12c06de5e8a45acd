/-
  The document's Least, Floor, In.
  Conditions: the numbers are small.
-/
import Derived.Test.YtanchjcifhbllaaRefBase
set_option linter.unusedVariables false
namespace Go.Proofs.Ytanchjcifhbllaa
open Go.RowKit

set_option maxRecDepth 100000 in
set_option maxHeartbeats 2000000 in
theorem least_any (W : World) (v : Value) (s : Rg) (h : RowR W v s.l) (hs : Small s) : Calls Try.prog 48 #[refV v s] W (RetB (.int .i64 (idxI (best s.l))) W) := by
  obtain ⟨A, c, rfl, hat⟩ := h.lies
  have hl := hs.len
  obtain ⟨n, hn⟩ : ∃ n, s.l.length = n := ⟨_, rfl⟩
  have HN := Lib.hid hn
  have HAT := Lib.hid hat
  have HSM := Lib.hid hs
  rw [hn] at hl ⊢
  obtain ⟨N, hN⟩ : ∃ N, W.heap.size = N := ⟨_, rfl⟩
  have HSZ := Lib.hid hN
  obtain ⟨w1, hw1⟩ : ∃ w1, W.alloc (.cells #[.slice A n c, .int .i64 s.num, .int .i64 s.den] 30) = w1 := ⟨_, rfl⟩
  have hb1 : Below W.heap.size W w1 := by rw [← hw1]; exact (Below.refl _ W).alloc (Nat.le_refl _) _
  have HN1 : Hid (w1.heap[N]? = some (.cells #[.slice A n c, .int .i64 s.num, .int .i64 s.den] 30 (0, 0))) := by rw [← hw1]; exact alloc_block W _ hN
  have HB1 := Lib.hid hb1
  obtain ⟨c0, _⟩ := three_heads HN1.out
  unfold refV
  clear h hn hat hb1 hs
  have mixed : Try.prog.follows .mixedOrders = true := by kernel_rfl
  go_enter Try.func48, Try.ntmps48
  go_wp2_with fail
  clear hw1 hN
  go_loopg [3, 4] n (fun gg s3 s4 wr => ∃ (k : Nat) (b : Option (Nat × Mb)), k ≤ n ∧ gg = n - k ∧ s4 = .int .i64 k ∧ s3 = .int .i64 (idxI b) ∧ Below w1.heap.size w1 wr ∧ bestGo (s.l.drop k) k b = best s.l ∧ ∀ x, b = some x → s.l[x.1]? = some x.2)
  case atStart => exact ⟨0, none, Nat.zero_le _, by omega, rfl, rfl, Below.refl _ _, rfl, fun x hx => by cases hx⟩
  case round =>
    obtain ⟨k, b, hk, hg, rfl, rfl, hbw, hbest, hbx⟩ := hrel
    have HB := Lib.hid hbw
    have HBEST := Lib.hid hbest
    have HBX := Lib.hid hbx
    have HG := Lib.hid hg
    obtain ⟨c1, _⟩ := three_heads (keep_block HN1.out hbw)
    clear hbest hbx hg hbw
    by_cases hlt : k < n
    · have hltz : (k : Int) < (n : Int) := by omega
      have hk0 : (0 : Int) ≤ (k : Int) := by omega
      obtain ⟨m, hm⟩ := ex_at (xs := s.l) (k := k) (by have := HN.out; omega)
      have HM := Lib.hid hm
      obtain ⟨g, hA, hgl, hr⟩ := HAT.out k m hm
      subst hA
      have HGK : Hid (∀ w', Below w1.heap.size w1 w' → w'.heap[g]? = W.heap[g]?) := fun w' hb => (hb.block g (by have := HB1.out.size; omega)).trans (HB1.out.block g hgl)
      obtain ⟨a0, a1, a2, a3⟩ := hr.keep (HGK.out wr HB.out)
      obtain ⟨f1, f2, f3⟩ := HSM.out.mem m (List.mem_of_getElem? hm)
      have HGO := Lib.hid (best_go hm HBEST.out)
      clear hr hgl hm
      obtain ⟨bi, hbi⟩ : ∃ bi, idxI b = bi := ⟨_, rfl⟩
      have HBI := Lib.hid hbi
      rw [hbi]
      clear hbi
      obtain ⟨m1, m2, m3, m4⟩ := m
      simp only at a0 a1 a2 a3 f1 f2 f3
      cases m4 with
      | false =>
        have ht : ¬ takes ⟨m1, m2, m3, false⟩ b = true := by unfold takes; simp
        rw [if_neg ht] at HGO
        clear ht f1 f2 f3
        go_wp2_with fail
        go_roundg (n - (k + 1))
        case measure => have := HG.out; omega
        case rel => exact ⟨k + 1, b, by omega, rfl, by go_num, (by rw [HBI.out]), HB.out.alloc HB.out.size _, HGO.out, HBX.out⟩
      | true =>
        go_upto_region 7 with fail
        obtain ⟨N2, hN2⟩ : ∃ N2, wr.heap.size = N2 := ⟨_, rfl⟩
        rw [hN2]
        obtain ⟨w2, hw2⟩ : ∃ w2, wr.alloc (.cells #[.int .i64 m1, .int .i64 m2, .int .i64 m3, .bool true] 71) = w2 := ⟨_, rfl⟩
        rw [hw2]
        have hb2 : Below wr.heap.size wr w2 := by rw [← hw2]; exact (Below.refl _ wr).alloc (Nat.le_refl _) _
        have HN2 : Hid (w2.heap[N2]? = some (.cells #[.int .i64 m1, .int .i64 m2, .int .i64 m3, .bool true] 71 (0, 0))) := by rw [← hw2]; exact alloc_block wr _ hN2
        have HB2 := Lib.hid (HB.out.trans (hb2.mono HB.out.size))
        obtain ⟨d0, d1, d2, d3⟩ : w2.cell? ⟨N2, 0, none⟩ = some (.int .i64 m1) ∧ w2.cell? ⟨N2, 1, none⟩ = some (.int .i64 m2) ∧ w2.cell? ⟨N2, 2, none⟩ = some (.int .i64 m3) ∧ w2.cell? ⟨N2, 3, none⟩ = some (.bool true) := by
          refine ⟨?_, ?_, ?_, ?_⟩ <;> simp [World.cell?, HN2.out]
        obtain ⟨e0, _⟩ := three_heads (keep_block HN1.out HB2.out)
        clear hw2 hN2 hb2 a0 a1 a2 a3 c1 c0
        cases b with
        | none =>
          have ht : takes ⟨m1, m2, m3, true⟩ none = true := rfl
          rw [if_pos ht] at HGO
          have hbi : bi = -1 := HBI.out.symm
          subst hbi
          clear ht f1 f2 f3
          go_quiet (fail)
          go_wp2_with fail
          go_roundg (n - (k + 1))
          case measure => have := HG.out; omega
          case rel => exact ⟨k + 1, some (k, ⟨m1, m2, m3, true⟩), by omega, rfl, by go_num, rfl, below_drewN HB2.out nq, HGO.out, fun x hx => by injection hx with hx; subst hx; exact HM.out⟩
        | some x =>
          obtain ⟨j, x⟩ := x
          have hx : s.l[j]? = some x := HBX.out _ rfl
          have hjn : j < n := by have := (List.getElem?_eq_some_iff.1 hx).1; have := HN.out; omega
          obtain ⟨k1, k2, k3⟩ := HSM.out.mem x (List.mem_of_getElem? hx)
          obtain ⟨g', hA, hgl, hr⟩ := HAT.out j x hx
          injection hA with hA
          injection hA with hA
          subst hA
          obtain ⟨x0, x1, x2, x3⟩ := hr.keep (HGK.out w2 HB2.out)
          have hbi : bi = (j : Int) := HBI.out.symm
          subst hbi
          obtain ⟨p1, hp1⟩ : ∃ p, m3 * x.w = p := ⟨_, rfl⟩
          obtain ⟨p2, hp2⟩ : ∃ p, x.n * m2 = p := ⟨_, rfl⟩
          have hl1 : p1 ≤ 10000000 * 1000 := by rw [← hp1]; exact Nat.mul_le_mul f3 k2
          have hl2 : p2 ≤ 10000000 * 1000 := by rw [← hp2]; exact Nat.mul_le_mul k3 f2
          have hto : takes ⟨m1, m2, m3, true⟩ (some (j, x)) = decide (p1 < p2) := by
            rw [takes_some rfl]
            show decide (m3 * x.w < x.n * m2) = _
            rw [hp1, hp2]
          rw [hto] at HGO
          have z1 : (m3 : Int) * (x.w : Int) = (p1 : Int) := by rw [← Int.natCast_mul, hp1]
          have z2 : (x.n : Int) * (m2 : Int) = (p2 : Int) := by rw [← Int.natCast_mul, hp2]
          have z3 : IntKind.i64.wrap (p1 : Int) = (p1 : Int) := by rw [IntKind.wrap_i64]; omega
          have z4 : IntKind.i64.wrap (p2 : Int) = (p2 : Int) := by rw [IntKind.wrap_i64]; omega
          have hjz : decide ((j : Int) < 0) = false := decide_eq_false (by omega)
          have hj0 : (0 : Int) ≤ (j : Int) := by omega
          have hjn2 : (j : Int) < (n : Int) := by omega
          clear hp1 hp2 hr hgl hx hto k1 k2 k3 f1 f2 f3
          obtain ⟨y1, y2, y3, y4⟩ := x
          simp only at x0 x1 x2 x3 z1 z2
          by_cases hdd : p1 < p2
          · rw [decide_eq_true hdd, if_pos rfl] at HGO
            have q1 : decide ((p1 : Int) < (p2 : Int)) = true := decide_eq_true (by omega)
            have q2 : (p1 : Int) < (p2 : Int) := by omega
            go_quiet (fail)
            go_wp2_with fail
            go_roundg (n - (k + 1))
            case measure => have := HG.out; omega
            case rel => exact ⟨k + 1, some (k, ⟨m1, m2, m3, true⟩), by omega, rfl, by go_num, rfl, below_drewN HB2.out nq, HGO.out, fun x hx => by injection hx with hx; subst hx; exact HM.out⟩
          · rw [decide_eq_false hdd, if_neg (by decide)] at HGO
            have q1 : decide ((p1 : Int) < (p2 : Int)) = false := decide_eq_false (by omega)
            have q2 : ¬ (p1 : Int) < (p2 : Int) := by omega
            go_quiet (fail)
            go_wp2_with fail
            go_roundg (n - (k + 1))
            case measure => have := HG.out; omega
            case rel => exact ⟨k + 1, some (j, ⟨y1, y2, y3, y4⟩), by omega, rfl, by go_num, rfl, below_drewN HB2.out nq, HGO.out, HBX.out⟩
    · have hltz : ¬ (k : Int) < (n : Int) := by omega
      have hfin : idxI b = idxI (best s.l) := by
        have := HBEST.out
        rw [List.drop_of_length_le (by have := HN.out; omega)] at this
        rw [← this]
        rfl
      obtain ⟨bi, hbi⟩ : ∃ bi, idxI b = bi := ⟨_, rfl⟩
      rw [hbi] at hfin ⊢
      have HFIN := Lib.hid hfin
      clear hbi hfin
      go_wp2
      go_ret
      exact ⟨by rw [← HFIN.out]; rfl, HB1.out.trans (HB.out.mono HB1.out.size)⟩

set_option maxRecDepth 100000 in
set_option maxHeartbeats 2000000 in
theorem refFloor_any (W : World) (v : Value) (s : Rg) (h : RowR W v s.l) (hs : Small s) : Calls Try.prog 51 #[refV v s] W (RetB (.tuple #[.int .i64 (floorN s).1, .int .i64 (floorN s).2]) W) := by
  have hb0 := (Below.refl W.heap.size W).alloc (Nat.le_refl _) (.cells #[v, .int .i64 s.num, .int .i64 s.den] 30)
  have HLE := Lib.hid (least_any _ v s (h.below hb0) hs)
  have hpos := fun m hm => (hs.mem m hm).1
  obtain ⟨A, c, rfl, hat⟩ := h.lies
  have hl := hs.len
  obtain ⟨n, hn⟩ : ∃ n, s.l.length = n := ⟨_, rfl⟩
  have HAT := Lib.hid hat
  rw [hn] at hl hb0 HLE ⊢
  obtain ⟨N, hN⟩ : ∃ N, W.heap.size = N := ⟨_, rfl⟩
  obtain ⟨w1, hw1⟩ : ∃ w1, W.alloc (.cells #[.slice A n c, .int .i64 s.num, .int .i64 s.den] 30) = w1 := ⟨_, rfl⟩
  rw [hw1] at hb0 HLE
  have HN1 : Hid (w1.heap[N]? = some (.cells #[.slice A n c, .int .i64 s.num, .int .i64 s.den] 30 (0, 0))) := by rw [← hw1]; exact alloc_block W _ hN
  have HB1 := Lib.hid hb0
  obtain ⟨c0, c1, c2, _⟩ := three_heads HN1.out
  unfold refV at *
  have mixed : Try.prog.follows .mixedOrders = true := by kernel_rfl
  unfold floorN
  cases hb : best s.l with
  | none =>
    rw [hb] at HLE
    have e : idxI none = -1 := rfl
    rw [e] at HLE
    clear h hat hb0 hs hpos hb e hn
    go_enter Try.func51, Try.ntmps51
    go_wp2_with fail
    clear hw1 hN
    refine HLE.out.mono ?_
    rintro e w2 ⟨rfl, hb⟩
    have HB2 := Lib.hid (HB1.out.trans (hb.mono HB1.out.size))
    obtain ⟨d0, d1, d2, _⟩ := three_heads (keep_block HN1.out hb)
    clear hb c0 c1 c2
    go_wp2_with fail
    go_quiet (fail)
    go_wp2
    go_ret2
    exact ⟨rfl, below_drewN HB2.out nq⟩
  | some x =>
    obtain ⟨k, m⟩ := x
    rw [hb] at HLE
    have e : idxI (some (k, m)) = (k : Int) := rfl
    rw [e] at HLE
    obtain ⟨hm, k2, k3⟩ := best_some hpos hb
    simp only at hm
    have hkl := (List.getElem?_eq_some_iff.1 hm).1
    rw [hn] at hkl
    have hk1 : (k : Int) < (n : Int) := by omega
    have hk0 : (0 : Int) ≤ (k : Int) := by omega
    obtain ⟨g, hA, hgl, hr⟩ := hat k m hm
    subst hA
    have HR := Lib.hid hr
    have HGL := Lib.hid hgl
    clear h hat hb0 hs hpos hb e hn k2 k3 hm hr hgl
    go_enter Try.func51, Try.ntmps51
    go_wp2_with fail
    clear hw1 hN
    refine HLE.out.mono ?_
    rintro e w2 ⟨rfl, hb⟩
    have HB2 := Lib.hid (HB1.out.trans (hb.mono HB1.out.size))
    obtain ⟨d0, d1, d2, _⟩ := three_heads (keep_block HN1.out hb)
    obtain ⟨a0, a1, a2, a3⟩ := HR.out.keep (HB2.out.block g HGL.out)
    clear hb c0 c1 c2
    obtain ⟨m1, m2, m3, m4⟩ := m
    simp only at a0 a1 a2 a3
    go_wp2_with fail
    go_quiet (fail)
    go_wp2
    go_ret2
    exact ⟨rfl, below_drewN HB2.out nq⟩

set_option maxRecDepth 100000 in
set_option maxHeartbeats 2000000 in
theorem in_any (W : World) (v : Value) (s : Rg) (w n : Nat) (h : RowR W v s.l) (hs : Small s) (hw : w ≤ 1000) (hn : n ≤ 100000000000) : Calls Try.prog 62 #[refV v s, .int .i64 w, .int .i64 n] W (RetB (.int .i64 (clampN (floorN s) w n)) W) := by
  have hb0 := (Below.refl W.heap.size W).alloc (Nat.le_refl _) (.cells #[v, .int .i64 s.num, .int .i64 s.den] 30)
  have HFL := Lib.hid (refFloor_any _ v s (h.below hb0) hs)
  obtain ⟨f1, f2, f3⟩ := hs.floor
  obtain ⟨A, c, rfl, hat⟩ := h.lies
  obtain ⟨a, ha⟩ : ∃ a, (floorN s).1 = a := ⟨_, rfl⟩
  obtain ⟨d, hd⟩ : ∃ d, (floorN s).2 = d := ⟨_, rfl⟩
  have hfl : floorN s = (a, d) := by rw [← ha, ← hd]
  rw [ha, hd] at HFL
  rw [hd] at f1 f2
  rw [ha] at f3
  obtain ⟨p, hp⟩ : ∃ p, a * w = p := ⟨_, rfl⟩
  have hpl : p ≤ 10000000 * 1000 := by rw [← hp]; exact Nat.mul_le_mul f3 hw
  have HUP := Lib.hid (fun W => up_any p d (by omega) f1 (by omega) W)
  obtain ⟨u, hu⟩ : ∃ u, (p + d - 1) / d = u := ⟨_, rfl⟩
  obtain ⟨q, hq⟩ : ∃ q, p / d = q := ⟨_, rfl⟩
  have hud := up_down (f := (a, d)) w f1
  have e1 : upN (a, d) w = u := by unfold upN; rw [hp, hu]
  have e2 : downN (a, d) w = q := by unfold downN; rw [hp, hq]
  rw [e1, e2] at hud
  have hql : q ≤ p := by rw [← hq]; exact Nat.div_le_self _ _
  have HRES : Hid (clampN (floorN s) w n = if n < u then u else if q + 1 < n then q + 1 else n) := by
    show _ = _
    rw [hfl]
    unfold clampN
    rw [e1, e2]
    split
    · omega
    · split <;> omega
  rw [hu] at HUP
  have y1 : (a : Int) * (w : Int) = (p : Int) := by rw [← Int.natCast_mul, hp]
  have y2 : (p : Int) / (d : Int) = (q : Int) := by rw [← hq]; exact (Int.natCast_ediv p d).symm
  have y3 : (p : Int).tdiv (d : Int) = (q : Int) := by rw [← hq]; rfl
  have y4 : ((d : Int) == 0) = false := beq_eq_false_iff_ne.2 (by omega)
  have y5 : ((d : Int) != 0) = true := by simp; omega
  obtain ⟨r, hr⟩ : ∃ r, clampN (floorN s) w n = r := ⟨_, rfl⟩
  rw [hr] at HRES ⊢
  have HB1 := Lib.hid hb0
  unfold refV at *
  clear h hat hb0 hs ha hd hfl hp hu hq e1 e2 hr hud
  go_enter Try.func62, Try.ntmps62
  go_wp2_with fail
  refine HFL.out.mono ?_
  rintro e w2 ⟨rfl, hb⟩
  have HB2 := Lib.hid (HB1.out.trans (hb.mono HB1.out.size))
  clear hb
  go_wp2_with fail
  refine (HUP.out _).mono ?_
  rintro e w3 ⟨rfl, rfl⟩
  by_cases h1 : n < u
  · have q1 : decide ((n : Int) < (u : Int)) = true := decide_eq_true (by omega)
    have q2 : (n : Int) < (u : Int) := by omega
    rw [if_pos h1] at HRES
    go_wp2_with fail
    refine (HUP.out _).mono ?_
    rintro e w4 ⟨rfl, rfl⟩
    go_wp2
    go_ret
    exact ⟨by rw [HRES.out]; rfl, HB2.out⟩
  · have q1 : decide ((n : Int) < (u : Int)) = false := decide_eq_false (by omega)
    have q2 : ¬ (n : Int) < (u : Int) := by omega
    rw [if_neg h1] at HRES
    by_cases h2 : q + 1 < n
    · have q3 : (q : Int) + 1 < (n : Int) := by omega
      rw [if_pos h2] at HRES
      go_wp2
      go_ret
      exact ⟨by rw [HRES.out]; rfl, HB2.out⟩
    · have q3 : ¬ (q : Int) + 1 < (n : Int) := by omega
      rw [if_neg h2] at HRES
      go_wp2
      go_ret
      exact ⟨by rw [HRES.out]; rfl, HB2.out⟩
end Go.Proofs.Ytanchjcifhbllaa
