/-
  owners of the program: whose the ticks of a core are.
  Conditions: the slice reads as places; their ticks lie within the frame.
-/
import Derived.Test.YtpjmdnhoiobedaaTicksO
import Derived.Test.YtpjmdnhoiobedaaLists
set_option linter.unusedVariables false
set_option linter.unusedSimpArgs false
namespace Go.Proofs.Ytpjmdnhoiobedaa
open Go.RowKit Go.Sort

/-- All ticks of the pieces lie within n. -/
def TicksIn (n : Nat) (l : List Pl) : Prop := ∀ x ∈ l, ∀ y ∈ x.ps, PcOk y ∧ ∀ t, t < 64 → y.t.testBit t = true → t < n
/-- Behind some pieces of a place. -/
def ownQ (q : List Pc) (u : Int) (F : Nat → Int) (c : Int) (t : Nat) : Int := if 0 < nOn q c t then u else F t
theorem ownQ_nil (u : Int) (F : Nat → Int) (c : Int) (t : Nat) : ownQ [] u F c t = F t := if_neg (Nat.lt_irrefl 0)
theorem ownQ_all {l : List Pl} {k : Nat} {x : Pl} (hx : l[k]? = some x) (c : Int) (t : Nat) : ownQ x.ps x.u (ownF (l.take k) c) c t = ownF (l.take (k + 1)) c t := by rw [ownF_take hx]; rfl
theorem ownQ_off {q : List Pc} {j : Nat} {y : Pc} (hy : q[j]? = some y) {u c : Int} (hc : (y.c != c) = true) (F : Nat → Int) (t : Nat) : ownQ (q.take (j + 1)) u F c t = ownQ (q.take j) u F c t := by
  have hc' : y.c ≠ c := by simpa using hc
  rw [List.take_add_one, hy, Option.toList_some]
  unfold ownQ
  rw [nOn_snoc]
  simp [onB, hc']
/-- Behind some ticks of a piece. -/
def ownI (ms : List Int) (u : Int) (F : Nat → Int) (t : Nat) : Int := if (t : Int) ∈ ms then u else F t
theorem ownI_nil (u : Int) (F : Nat → Int) (t : Nat) : ownI [] u F t = F t := if_neg (by simp)
theorem ownI_snoc {ms : List Int} {i s : Nat} (hi : ms[i]? = some (s : Int)) (u : Int) (F : Nat → Int) (t : Nat) : (if t = s then u else ownI (ms.take i) u F t) = ownI (ms.take (i + 1)) u F t := by
  rw [List.take_add_one, hi, Option.toList_some]
  unfold ownI
  by_cases e : t = s
  · subst e; rw [if_pos rfl, if_pos (by simp)]
  · rw [if_neg e]
    have : ((t : Int) ∈ ms.take i ++ [(s : Int)]) ↔ (t : Int) ∈ ms.take i := by simp; omega
    simp only [this]
theorem ticksI_mem {m : Nat} (hm : m < 18446744073709551616) (t : Nat) : (t : Int) ∈ ticksI m 64 ↔ m.testBit t = true := by
  unfold ticksI
  rw [List.mem_map]
  constructor
  · rintro ⟨s, hs, e⟩
    have : s = t := by omega
    subst this
    unfold ticksT at hs
    exact (List.mem_filter.1 hs).2
  · intro h
    refine ⟨t, ?_, rfl⟩
    unfold ticksT
    refine List.mem_filter.2 ⟨List.mem_range.2 ?_, h⟩
    rcases Nat.lt_or_ge t 64 with h1 | h1
    · exact h1
    · exfalso
      have h2 := Nat.ge_two_pow_of_testBit h
      have h3 : 2 ^ 64 ≤ 2 ^ t := Nat.pow_le_pow_right (by decide) h1
      omega
theorem ownI_all {q : List Pc} {j : Nat} {y : Pc} (hy : q[j]? = some y) (hm : y.t < 18446744073709551616) {u c : Int} (hc : (y.c != c) = false) (F : Nat → Int) (t : Nat) :
    ownI (ticksI y.t 64) u (ownQ (q.take j) u F c) t = ownQ (q.take (j + 1)) u F c t := by
  have hc' : y.c = c := by simpa using hc
  rw [List.take_add_one, hy, Option.toList_some]
  unfold ownI ownQ
  rw [nOn_snoc]
  simp only [ticksI_mem hm]
  cases hb : y.t.testBit t with
  | true => simp [onB, hc', hb]
  | false => simp [onB, hc', hb]
theorem rowQ_nil (n : Nat) (u : Int) (F : Nat → Int) (c : Int) : rowN n (ownQ [] u F c) = rowN n F := rowN_congr fun t _ => ownQ_nil u F c t
theorem rowI_nil (n : Nat) (u : Int) (F : Nat → Int) : rowN n (ownI [] u F) = rowN n F := rowN_congr fun t _ => ownI_nil u F t

set_option maxRecDepth 100000 in
set_option maxHeartbeats 4000000 in
theorem owners_any (n m : Nat) (v : Value) (l : List Pl) (c : Int) (w : World) (h : PlsAt w v l) (hl : l.length ≤ 1000) (hp : ∀ x ∈ l, x.ps.length ≤ 1000) (hn : n ≤ 64) (hT : TicksIn n l) :
    Calls Try.prog 23 #[planA n m v, .int .i64 c] w (RetI (fun b => w.heap.size ≤ b) (rowN n (ownF l c)) w) := by
  have HPL := Lib.hid hp
  have HTI := Lib.hid hT
  have HN := Lib.hid hn
  obtain ⟨A, cA, rfl, hlc, hcm⟩ := h.form
  have HL := Lib.hid (h.mono (G := fun b => b < w.heap.size) fun b hb _ => hb)
  obtain ⟨w1, P, hw1, hP, hPl, hb1, hbox⟩ := box_any w #[.int .i64 (n : Int), .int .u32 m, .slice A l.length cA] 25
  obtain ⟨L, hL⟩ : ∃ L, l.length = L := ⟨_, rfl⟩
  rw [hL] at HL hlc hl hw1 hbox ⊢
  have HLN := Lib.hid hL
  have HB1 := Lib.hid hb1
  have HBOX := Lib.hid hbox
  obtain ⟨r0, r1, r2⟩ := three_heads hbox
  have HTK := Lib.hid (fun (t : Nat) W (hm : t < 18446744073709551616) => ticks_own t W hm (fun W => count_any t W hm))
  have hmk := mk_ints w1 n (by omega)
  obtain ⟨g0, hg0⟩ : ∃ b, w1.heap.size = b := ⟨_, rfl⟩
  obtain ⟨wm, hwm⟩ : ∃ wm, w1.alloc (.cells (rowOf (zeros n)) 3) = wm := ⟨_, rfl⟩
  have HBM : Hid (Below w1.heap.size w1 wm) := by rw [← hwm]; exact (Below.refl _ w1).alloc (Nat.le_refl _) _
  have HR0 : Hid (RowAt wm g0 (rowN n (ownF (l.take 0) c))) := by
    rw [← hwm, ← hg0]
    have : rowN n (ownF (l.take 0) c) = zeros n := rowN_zero n
    rw [this]
    exact RowAt.new _ _
  rw [hwm, hg0] at hmk
  have HG0 := Lib.hid hg0
  obtain ⟨q0, q1, q2⟩ := three_heads (keep_block HBOX.out HBM.out)
  have hn0 : (0 : Int) ≤ (n : Int) := by omega
  clear hwm hg0 h hL hb1 hbox hp hT hn
  unfold planA
  go_enter Try.func23, Try.ntmps23
  go_wp2_with fail
  clear hw1 hP r0 r1 r2 hmk q0 q1 q2
  go_loopg [7, 9, 11, 18] L (fun gg _ _ _ s18 wr => ∃ (k : Nat), k ≤ L ∧ gg = L - k ∧ s18 = .int .i64 k ∧ Below w1.heap.size w1 wr ∧ RowAt wr g0 (rowN n (ownF (l.take k) c)))
  case atStart => exact ⟨0, Nat.zero_le _, by omega, rfl, HBM.out, HR0.out⟩
  case round =>
    obtain ⟨k, hk, hg, rfl, hbw, hrow⟩ := hrel
    have HBW := Lib.hid hbw
    have HRW := Lib.hid hrow
    have HB := Lib.hid (HB1.out.trans (hbw.mono HB1.out.size))
    have HG := Lib.hid hg
    have HBX := Lib.hid (keep_block HBOX.out hbw)
    obtain ⟨r0, r1, r2⟩ := three_heads HBX.out
    have HLR := Lib.hid (HL.out.keep HB.out)
    clear hbw hg hrow
    by_cases hlt : k < L
    · have hk0 : (0 : Int) ≤ (k : Int) := by omega
      have hltz : (k : Int) < (L : Int) := by omega
      obtain ⟨x, hx⟩ := exP_at (xs := l) (k := k) (by rw [HLN.out]; exact hlt)
      obtain ⟨b, off, B, d, hA, hbl, _, ⟨c0, c1, c2, c3⟩, hps⟩ := HLR.out.at_ hx
      subst hA
      simp only at c0 c1 c2 c3
      have HX := Lib.hid hx
      have HPS := Lib.hid hps
      have HXM := Lib.hid (List.mem_of_getElem? hx)
      clear hx hps
      obtain ⟨w2, N, hw2, hN, hNl, hb2, hxbox⟩ := box_any wr #[.int .i64 x.u, .int .i64 x.s, .int .i64 x.c, .slice B x.ps.length d] 56
      have HXB := Lib.hid hxbox
      have HB2 := Lib.hid (HBW.out.trans (hb2.mono HBW.out.size))
      have HR2 := Lib.hid (HRW.out.below hb2 HRW.out.lt)
      have HPS2 := Lib.hid (HPS.out.keep hb2)
      obtain ⟨x0, x1, x2, x3⟩ := four_heads hxbox
      have HNL := Lib.hid (show w1.heap.size ≤ N by have := HBW.out.size; omega)
      have HNL2 := Lib.hid hNl
      have HNG := Lib.hid (show N ≠ g0 by have := HRW.out.lt; omega)
      obtain ⟨np, hnp⟩ : ∃ np, x.ps.length = np := ⟨_, rfl⟩
      have HNP := Lib.hid hnp
      rw [hnp] at hw2 c3 x3 HXB HPS2
      have hnpl : np ≤ 1000 := by rw [← hnp]; exact HPL.out x HXM.out
      have HPB := Lib.hid hnpl
      clear hb2 hxbox hnp hnpl
      go_wp2_with fail
      clear hw2 hN r0 r1 r2 c0 c1 c2 c3 x0 x1 x2 x3 hNl
      go_loopg [9, 11, 25] np (fun gg _ _ s25 wi => ∃ (j : Nat), j ≤ np ∧ gg = np - j ∧ s25 = .int .i64 j ∧ Below w1.heap.size w1 wi ∧ wi.heap[N]? = w2.heap[N]? ∧ w2.heap.size ≤ wi.heap.size ∧ PcsIn (fun b => b < w.heap.size) wi (.slice B np d) x.ps ∧ RowAt wi g0 (rowN n (ownQ (x.ps.take j) x.u (ownF (l.take k) c) c)))
      case atStart => exact ⟨0, Nat.zero_le _, by omega, rfl, HB2.out, rfl, Nat.le_refl _, HPS2.out, by rw [List.take_zero, rowQ_nil]; exact HR2.out⟩
      case round =>
        obtain ⟨j, hj, hgj, rfl, hbi, hni, hsi, hpi, hri⟩ := hrel
        have HBI := Lib.hid hbi
        have HNI := Lib.hid hni
        have HSI := Lib.hid hsi
        have HPI := Lib.hid hpi
        have HRI := Lib.hid hri
        have HGJ := Lib.hid hgj
        have hnpb : np ≤ 1000 := HPB.out
        clear hbi hni hsi hpi hri hgj
        by_cases hjl : j < np
        · have hj0 : (0 : Int) ≤ (j : Int) := by omega
          have hjz : (j : Int) < (np : Int) := by omega
          obtain ⟨y, hy⟩ := exP_at (xs := x.ps) (k := j) (by rw [HNP.out]; exact hjl)
          obtain ⟨bp, offp, hB, hbpl, _, hyc⟩ := HPI.out.at_ hy
          obtain ⟨y0, y1⟩ := hyc
          subst hB
          have HY := Lib.hid hy
          have HTY := Lib.hid (HTI.out x HXM.out y (List.mem_of_getElem? hy))
          obtain ⟨⟨_, hyt⟩, _⟩ := HTI.out x HXM.out y (List.mem_of_getElem? hy)
          have HYT := Lib.hid hyt
          obtain ⟨w3, M, hw3, hM, hMl, hb3, hybox⟩ := box_any wr #[.int .i64 y.c, .int .u64 y.t] 61
          obtain ⟨z0, z1⟩ := two_heads hybox
          have HB3 := Lib.hid hb3
          have HPI3 := Lib.hid (HPI.out.keep hb3)
          have HRI3 := Lib.hid (HRI.out.below hb3 HRI.out.lt)
          have HXB3 : Hid (w3.heap[N]? = some (.cells #[.int .i64 x.u, .int .i64 x.s, .int .i64 x.c, .slice (some ⟨bp, offp, none⟩) np d] 56 (0, 0))) := Lib.hid (by
            have h1 : N < w2.heap.size := HNL2.out
            have h2 := HSI.out
            exact (hb3.block N (by omega)).trans (HNI.out.trans HXB.out))
          have HB4 := Lib.hid (HBI.out.trans (hb3.mono HBI.out.size))
          have HS3 := Lib.hid (Nat.le_trans HSI.out hb3.size)
          have HN3 : Hid (w3.heap[N]? = w2.heap[N]?) := Lib.hid (HXB3.out.trans HXB.out.symm)
          clear hb3 hybox hy hyt
          cases hc : (y.c != c) with
          | true =>
            have HE := Lib.hid (fun t => ownQ_off HY.out hc (u := x.u) (ownF (l.take k) c) t)
            go_wp2_with fail
            go_roundg (np - (j + 1))
            case measure => have := HGJ.out; omega
            case rel => exact ⟨j + 1, by omega, rfl, by have := HPB.out; go_num, HB4.out, HN3.out, HS3.out, HPI3.out, by rw [rowN_congr (n := n) fun t _ => HE.out t]; exact HRI3.out⟩
          | false =>
            have HE := Lib.hid (fun t => ownI_all HY.out HYT.out hc (u := x.u) (ownF (l.take k) c) t)
            go_wp2_with fail
            clear hw3 hM y0 y1 z0 z1 hMl
            refine (HTK.out y.t _ HYT.out).mono ?_
            rintro e w4 ⟨v4, rfl, hi4, hbi4, hb4⟩
            obtain ⟨A4, c4, rfl⟩ := hi4.form
            have HI4 := Lib.hid hi4
            have HBI4 := Lib.hid hbi4
            have HG3 := Lib.hid HRI3.out.lt
            have HB5 := Lib.hid (HB4.out.trans (hb4.mono HB4.out.size))
            have HRI4 := Lib.hid (HRI3.out.below hb4 HRI3.out.lt)
            have HPI4 := Lib.hid (HPI3.out.keep hb4)
            have HXB4 := Lib.hid (keep_block HXB3.out hb4)
            have HS4 := Lib.hid (Nat.le_trans HS3.out hb4.size)
            obtain ⟨nt, hnt⟩ : ∃ nt, (ticksI y.t 64).length = nt := ⟨_, rfl⟩
            rw [hnt] at HI4 HBI4 ⊢
            have HNT := Lib.hid hnt
            have HNT64 := Lib.hid (show nt ≤ 64 by rw [← hnt, ticksI_length]; exact cntT_le _ _)
            clear hi4 hbi4 hb4 hnt
            go_wp2_with fail
            go_loopg [11, 37] nt (fun gg _ s37 wt => ∃ (i : Nat), i ≤ nt ∧ gg = nt - i ∧ s37 = .int .i64 i ∧ Below w1.heap.size w1 wt ∧ w4.heap.size ≤ wt.heap.size ∧ (∀ b, b < w4.heap.size → b ≠ g0 → wt.heap[b]? = w4.heap[b]?) ∧ RowAt wt g0 (rowN n (ownI ((ticksI y.t 64).take i) x.u (ownQ (x.ps.take j) x.u (ownF (l.take k) c) c))))
            case atStart => exact ⟨0, Nat.zero_le _, by omega, rfl, HB5.out, Nat.le_refl _, fun _ _ _ => rfl, by rw [List.take_zero, rowI_nil]; exact HRI4.out⟩
            case round =>
              obtain ⟨i, hi, hg, rfl, hbt, hst, hkt, hrt⟩ := hrel
              have HBT := Lib.hid hbt
              have HST := Lib.hid hst
              have HKT := Lib.hid hkt
              have HRT := Lib.hid hrt
              have HGI := Lib.hid hg
              have hntb : nt ≤ 64 := HNT64.out
              clear hbt hst hkt hrt hg
              by_cases hil : i < nt
              · have hi0 : (0 : Int) ≤ (i : Int) := by omega
                have hiz : (i : Int) < (nt : Int) := by omega
                obtain ⟨s, hs⟩ := exP_at (xs := ticksI y.t 64) (k := i) (by rw [HNT.out]; exact hil)
                obtain ⟨q, rfl, hq⟩ := ticksI_get hs
                obtain ⟨hq64, hqb, _⟩ := (tick_iff _ _ _).1 hq
                have hqn : q < n := HTY.out.2 q hq64 hqb
                have hq0 : (0 : Int) ≤ (q : Int) := by omega
                have hqz : (q : Int) < (n : Int) := by omega
                obtain ⟨b4, o4, hA4, hb4l, hcl4⟩ : ∃ b4 o4, A4 = some ⟨b4, o4, none⟩ ∧ b4 < w4.heap.size ∧ ∀ (j : Nat) (x : Int), (ticksI y.t 64)[j]? = some x → w4.cell? ⟨b4, o4 + j, none⟩ = some (.int .i64 x) := by
                  obtain ⟨A', c', e, _, h3⟩ := HI4.out
                  injection e with e1 e2 e3
                  obtain ⟨b4, o4, e4, h4, h5⟩ := h3 (by rw [HNT.out]; omega)
                  exact ⟨b4, o4, e1.trans e4, h4, h5⟩
                subst hA4
                have hne4 : b4 ≠ g0 := by
                  have h1 := HBI4.out (by omega) b4 rfl
                  have h2 := HG3.out
                  omega
                have t0 : wr.cell? ⟨b4, o4 + i, none⟩ = some (.int .i64 (q : Int)) := (World.cell?_of_block (w := w4) (HKT.out b4 hb4l hne4)).trans (hcl4 i _ hs)
                have u0 := HRT.out.cell (rowN_get _ hqn)
                have u1 := HRT.out.frozen q
                obtain ⟨x0, x1, x2, x3⟩ := four_heads (show wr.heap[N]? = some (.cells #[.int .i64 x.u, .int .i64 x.s, .int .i64 x.c, .slice (some ⟨bp, offp, none⟩) np d] 56 (0, 0)) from
                  (HKT.out N (by have := heap_lt HXB4.out; omega) (by have h1 := HNL.out; have h2 := HG0.out; have h3 := HNG.out; omega)).trans HXB4.out)
                have HQ := Lib.hid hs
                clear hcl4 hs hq hqb
                go_wp2_with fail
                go_roundg (nt - (i + 1))
                case measure => have := HGI.out; omega
                case rel =>
                  refine ⟨i + 1, by omega, rfl, by have := HNT64.out; go_num, HBT.out.setCell (p := ⟨g0, q, none⟩) (Nat.le_of_eq HG0.out) _, by simpa [World.setCell] using HST.out, fun b hb hne => (Below.heap_setCell _ _ _ _ (by exact hne)).trans (HKT.out b hb hne), ?_⟩
                  have h := HRT.out.set_ q x.u
                  rw [rowN_set, rowN_congr (n := n) fun t _ => ownI_snoc HQ.out x.u _ t] at h
                  exact h
              · have hiz : ¬ (i : Int) < (nt : Int) := by omega
                have HT := Lib.hid (show (ticksI y.t 64).take i = ticksI y.t 64 from List.take_of_length_le (by rw [HNT.out]; omega))
                rw [HT.out, rowN_congr (n := n) fun t _ => HE.out t] at HRT
                go_wp2_with fail
                go_roundg (np - (j + 1))
                case measure => have := HGJ.out; omega
                case rel =>
                  have h4 := heap_lt HXB4.out
                  have hngo : N ≠ g0 := HNG.out
                  refine ⟨j + 1, by omega, rfl, by have := HPB.out; go_num, HBT.out, (HKT.out N h4 hngo).trans (HXB4.out.trans HXB.out.symm), Nat.le_trans HS4.out HST.out, ?_, HRT.out⟩
                  exact HPI4.out.keepF HST.out fun b hb hF => HKT.out b hb (by have := HB1.out.size; have := HG0.out; omega)
        · have hjz : ¬ (j : Int) < (np : Int) := by omega
          have HE := Lib.hid (fun t => ownQ_all HX.out c t)
          have HT := Lib.hid (show x.ps.take j = x.ps from List.take_of_length_le (by rw [HNP.out]; omega))
          rw [HT.out] at HRI
          go_wp2_with fail
          go_roundg (L - (k + 1))
          case measure => have := HG.out; omega
          case rel => exact ⟨k + 1, by omega, rfl, by go_num, HBI.out, by rw [rowN_congr (n := n) fun t _ => (HE.out t).symm]; exact HRI.out⟩
    · have hltz : ¬ (k : Int) < (L : Int) := by omega
      have HE := Lib.hid (show l.take k = l from List.take_of_length_le (by rw [HLN.out]; omega))
      rw [HE.out] at HRW
      go_wp2
      go_ret
      refine ⟨_, rfl, ?_, fun _ b hb => ?_, HB.out⟩
      · have h := HRW.out.ints (by rw [rowN_length]; have := HN.out; omega) n
        rw [rowN_length] at h
        exact h
      · cases hb
        show w.heap.size ≤ g0
        have := HG0.out
        have := HB1.out.size
        omega
end Go.Proofs.Ytpjmdnhoiobedaa
