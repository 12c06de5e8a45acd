/-
  The first answers that the document gives come out.
  Conditions: none.
-/
import Derived.Test.YtpfpojehcjmfnaaGreatT25
import Derived.Test.YtpfpojehcjmfnaaGreatT03
import Derived.Test.YtpfpojehcjmfnaaGreatT05
import Derived.Test.YtpfpojehcjmfnaaGreatT13
import Derived.Test.YtpfpojehcjmfnaaGreatT06
import Derived.Test.YtpfpojehcjmfnaaGreatT12
import Derived.Test.YtpfpojehcjmfnaaGreatT18
import Derived.Test.YtpfpojehcjmfnaaGreatT15

/-
  mask.Ticks once more: what it answers lies in memory of the call's own.
  Conditions: none.
-/
set_option linter.unusedVariables false
namespace Go.Proofs.YtpfpojehcjmfnaaGreat
open Go.RowKit

def RetI (F : Nat → Prop) (xs : List Int) (w : World) (e : Ending) (w' : World) : Prop := ∃ v, e = .returned v ∧ IntsAt w' v xs ∧ InB F xs.length v ∧ Below w.heap.size w w'
set_option maxRecDepth 100000 in
set_option maxHeartbeats 1000000 in
theorem ticks_own (m : Nat) (w : World) (hm : m < 18446744073709551616) (HC : ∀ W, Calls Tryz.prog 103 #[.int .u64 m] W (Ret (.int .i64 (cnt m)) W)) :
    Calls Tryz.prog 106 #[.int .u64 m] w (RetI (fun b => w.heap.size ≤ b) (ticksI m 64) w) := by
  obtain ⟨i0, hi, hz0, hz1, hz2⟩ := info_parts Tryz.infoInt
  have HCC := Lib.hid HC
  have hc64 := cnt_le m
  generalize cnt m = c at *
  clear HC
  go_enter Tryz.func106, Tryz.ntmps106
  go_wp2_with (first
    | (go_at_call 103; refine (HCC.out _).mono ?_; rintro e w' ⟨rfl, rfl⟩)
    | (at_make; refine wpList_make_own _ rfl _ _ 43 rfl w.heap.size 3 i0 (.int .i64 0) 1 Tryz.underlying43 hi hz0 hz1 _ _ _ c rfl rfl rfl (by rw [hz2]; omega) (by unfold maxLen; omega) (Nat.le_refl _) ?_; intro w1 hown1 hgrow1))
  have HB0 := Lib.hid (below_grown4 hgrow1 (Nat.le_refl _) (fun k h => by cases h))
  have HO0 := Lib.hid hown1
  clear hown1 hgrow1
  go_loopg [3, 8] 64 (fun g s i wr => TicksRel m w g s i wr)
  case atStart => exact ⟨0, Nat.zero_le _, rfl, rfl, HB0.out, HO0.out⟩
  case round =>
    obtain ⟨k, hk, hg, rfl, hbr, hown⟩ := hrel
    have HG := Lib.hid hg
    have HB := Lib.hid hbr
    have HO := Lib.hid hown
    clear hg hbr hown
    by_cases hlt : k < 64
    · have HH := Lib.hid (fun W => has_any m (k : Int) W hm)
      rw [hasB_nat hlt] at HH
      have hlen : cntT m k ≤ k := cntT_le m k
      rw [ticksI_length] at HO
      generalize hn : cntT m k = n at *
      have HN := Lib.hid hn
      clear hn
      cases hb : m.testBit k
      · have HE := Lib.hid (ticksI_no hb)
        rw [hb] at HH
        clear hb
        go_wp2_with (go_at_call 146; refine (HH.out _).mono ?_; rintro e w' ⟨rfl, rfl⟩)
        go_roundg (64 - (k + 1))
        case measure => have := HG.out; omega
        case rel => exact ⟨k + 1, by omega, rfl, by go_num, HB.out, by rw [HE.out, ticksI_length, HN.out]; exact HO.out⟩
      · have HE := Lib.hid (ticksI_yes hb)
        rw [hb] at HH
        clear hb
        have hsz := HB.out.size
        go_wp2_with (first
          | (go_at_call 146; refine (HH.out _).mono ?_; rintro e w' ⟨rfl, rfl⟩)
          | (at_builtin; refine wpList_append_own _ rfl _ _ 43 rfl w.heap.size 3 i0 (.int .i64 0) 1 8 Tryz.underlying43 hi hz0 hz1 hz2 rfl (by decide) _ _ _ rfl (HO.out.alloc _) ⟨wr.heap.size, 0, none⟩ 1 1 [.int .i64 k] rfl rfl ?c1 ?c2 ?c3 ?c4 ?c5 ?_))
        case c1 =>
          intro j u hj
          rcases j with _ | j
          · simpa [Addr.add] using hj
          · simp at hj
        case c2 => intro u hu; simp at hu; subst hu; rfl
        case c3 => unfold maxLen; omega
        case c4 => omega
        case c5 => simp; omega
        intro v2 w2 hown2 hgrow _
        have HB2 := Lib.hid ((HB.out.alloc hsz _).trans (below_grown4 hgrow (by simp; omega) (own_base4 HO.out)))
        have HO2 := Lib.hid hown2
        clear hown2 hgrow hsz
        go_wp2
        go_roundg (64 - (k + 1))
        case measure => have := HG.out; omega
        case rel =>
          refine ⟨k + 1, by omega, rfl, by go_num, HB2.out, ?_⟩
          have e := HO2.out
          rw [HE.out, List.length_append, ticksI_length, HN.out, List.map_append]
          exact e
    · have hk64 : k = 64 := by omega
      subst hk64
      have HR := Lib.hid (ints_of_own HO.out (by rw [ticksI_length]; have := cntT_le m 64; omega))
      go_wp2
      go_ret
      exact ⟨_, rfl, HR.out, fun _ b hb => own_base4 HO.out b hb, HB.out⟩
end Go.Proofs.YtpfpojehcjmfnaaGreat

/-
  owners of the program: whose the ticks of a core are.
  Conditions: the slice reads as places; their ticks lie within the frame.
-/
set_option linter.unusedVariables false
set_option linter.unusedSimpArgs false
namespace Go.Proofs.YtpfpojehcjmfnaaGreat
open Go.RowKit Go.Sort

/-- All ticks of the pieces lie within n. -/
def TicksIn (n : Nat) (l : List Pl) : Prop := ∀ x ∈ l, ∀ y ∈ x.ps, PcOk y ∧ ∀ t, t < 64 → y.t.testBit t = true → t < n
/-- Behind some pieces of a place. -/
def ownQ (q : List Pc) (u : Int) (F : Nat → Int) (c : Int) (t : Nat) : Int := if 0 < nOn q c t then u else F t
theorem ownQ_nil (u : Int) (F : Nat → Int) (c : Int) (t : Nat) : ownQ [] u F c t = F t := if_neg (Nat.lt_irrefl 0)
theorem ownQ_all {l : List Pl} {k : Nat} {x : Pl} (hx : l[k]? = some x) (c : Int) (t : Nat) : ownQ x.ps x.u (ownF (l.take k) c) c t = ownF (l.take (k + 1)) c t := by rw [ownF_take hx]; rfl
theorem ownQ_off {q : List Pc} {j : Nat} {y : Pc} (hy : q[j]? = some y) {u c : Int} (hc : (y.c != c) = true) (F : Nat → Int) (t : Nat) : ownQ (q.take (j + 1)) u F c t = ownQ (q.take j) u F c t := by
  have hc' : y.c ≠ c := by simpa using hc
  rw [List.take_add_one, hy, Option.toList_some]
  unfold ownQ
  rw [nOn_snoc]
  simp [onB, hc']
/-- Behind some ticks of a piece. -/
def ownI (ms : List Int) (u : Int) (F : Nat → Int) (t : Nat) : Int := if (t : Int) ∈ ms then u else F t
theorem ownI_nil (u : Int) (F : Nat → Int) (t : Nat) : ownI [] u F t = F t := if_neg (by simp)
theorem ownI_snoc {ms : List Int} {i s : Nat} (hi : ms[i]? = some (s : Int)) (u : Int) (F : Nat → Int) (t : Nat) : (if t = s then u else ownI (ms.take i) u F t) = ownI (ms.take (i + 1)) u F t := by
  rw [List.take_add_one, hi, Option.toList_some]
  unfold ownI
  by_cases e : t = s
  · subst e; rw [if_pos rfl, if_pos (by simp)]
  · rw [if_neg e]
    have : ((t : Int) ∈ ms.take i ++ [(s : Int)]) ↔ (t : Int) ∈ ms.take i := by simp; omega
    simp only [this]
theorem ticksI_mem {m : Nat} (hm : m < 18446744073709551616) (t : Nat) : (t : Int) ∈ ticksI m 64 ↔ m.testBit t = true := by
  unfold ticksI
  rw [List.mem_map]
  constructor
  · rintro ⟨s, hs, e⟩
    have : s = t := by omega
    subst this
    unfold ticksT at hs
    exact (List.mem_filter.1 hs).2
  · intro h
    refine ⟨t, ?_, rfl⟩
    unfold ticksT
    refine List.mem_filter.2 ⟨List.mem_range.2 ?_, h⟩
    rcases Nat.lt_or_ge t 64 with h1 | h1
    · exact h1
    · exfalso
      have h2 := Nat.ge_two_pow_of_testBit h
      have h3 : 2 ^ 64 ≤ 2 ^ t := Nat.pow_le_pow_right (by decide) h1
      omega
theorem ownI_all {q : List Pc} {j : Nat} {y : Pc} (hy : q[j]? = some y) (hm : y.t < 18446744073709551616) {u c : Int} (hc : (y.c != c) = false) (F : Nat → Int) (t : Nat) :
    ownI (ticksI y.t 64) u (ownQ (q.take j) u F c) t = ownQ (q.take (j + 1)) u F c t := by
  have hc' : y.c = c := by simpa using hc
  rw [List.take_add_one, hy, Option.toList_some]
  unfold ownI ownQ
  rw [nOn_snoc]
  simp only [ticksI_mem hm]
  cases hb : y.t.testBit t with
  | true => simp [onB, hc', hb]
  | false => simp [onB, hc', hb]
theorem rowQ_nil (n : Nat) (u : Int) (F : Nat → Int) (c : Int) : rowN n (ownQ [] u F c) = rowN n F := rowN_congr fun t _ => ownQ_nil u F c t
theorem rowI_nil (n : Nat) (u : Int) (F : Nat → Int) : rowN n (ownI [] u F) = rowN n F := rowN_congr fun t _ => ownI_nil u F t

set_option maxRecDepth 100000 in
set_option maxHeartbeats 4000000 in
theorem owners_any (n m : Nat) (v : Value) (l : List Pl) (c : Int) (w : World) (h : PlsAt w v l) (hl : l.length ≤ 1000) (hp : ∀ x ∈ l, x.ps.length ≤ 1000) (hn : n ≤ 64) (hT : TicksIn n l) :
    Calls Tryz.prog 57 #[planA n m v, .int .i64 c] w (RetI (fun b => w.heap.size ≤ b) (rowN n (ownF l c)) w) := by
  have HPL := Lib.hid hp
  have HTI := Lib.hid hT
  have HN := Lib.hid hn
  obtain ⟨A, cA, rfl, hlc, hcm⟩ := h.form
  have HL := Lib.hid (h.mono (G := fun b => b < w.heap.size) fun b hb _ => hb)
  obtain ⟨w1, P, hw1, hP, hPl, hb1, hbox⟩ := box_any w #[.int .i64 (n : Int), .int .u32 m, .slice A l.length cA] 26
  obtain ⟨L, hL⟩ : ∃ L, l.length = L := ⟨_, rfl⟩
  rw [hL] at HL hlc hl hw1 hbox ⊢
  have HLN := Lib.hid hL
  have HB1 := Lib.hid hb1
  have HBOX := Lib.hid hbox
  obtain ⟨r0, r1, r2⟩ := three_heads hbox
  have HTK := Lib.hid (fun (t : Nat) W (hm : t < 18446744073709551616) => ticks_own t W hm (fun W => count_any t W hm))
  have hmk := mk_ints w1 n (by omega)
  obtain ⟨g0, hg0⟩ : ∃ b, w1.heap.size = b := ⟨_, rfl⟩
  obtain ⟨wm, hwm⟩ : ∃ wm, w1.alloc (.cells (rowOf (zeros n)) 3) = wm := ⟨_, rfl⟩
  have HBM : Hid (Below w1.heap.size w1 wm) := by rw [← hwm]; exact (Below.refl _ w1).alloc (Nat.le_refl _) _
  have HR0 : Hid (RowAt wm g0 (rowN n (ownF (l.take 0) c))) := by
    rw [← hwm, ← hg0]
    have : rowN n (ownF (l.take 0) c) = zeros n := rowN_zero n
    rw [this]
    exact RowAt.new _ _
  rw [hwm, hg0] at hmk
  have HG0 := Lib.hid hg0
  obtain ⟨q0, q1, q2⟩ := three_heads (keep_block HBOX.out HBM.out)
  have hn0 : (0 : Int) ≤ (n : Int) := by omega
  clear hwm hg0 h hL hb1 hbox hp hT hn
  unfold planA
  go_enter Tryz.func57, Tryz.ntmps57
  go_wp2_with fail
  clear hw1 hP r0 r1 r2 hmk q0 q1 q2
  go_loopg [7, 9, 11, 18] L (fun gg _ _ _ s18 wr => ∃ (k : Nat), k ≤ L ∧ gg = L - k ∧ s18 = .int .i64 k ∧ Below w1.heap.size w1 wr ∧ RowAt wr g0 (rowN n (ownF (l.take k) c)))
  case atStart => exact ⟨0, Nat.zero_le _, by omega, rfl, HBM.out, HR0.out⟩
  case round =>
    obtain ⟨k, hk, hg, rfl, hbw, hrow⟩ := hrel
    have HBW := Lib.hid hbw
    have HRW := Lib.hid hrow
    have HB := Lib.hid (HB1.out.trans (hbw.mono HB1.out.size))
    have HG := Lib.hid hg
    have HBX := Lib.hid (keep_block HBOX.out hbw)
    obtain ⟨r0, r1, r2⟩ := three_heads HBX.out
    have HLR := Lib.hid (HL.out.keep HB.out)
    clear hbw hg hrow
    by_cases hlt : k < L
    · have hk0 : (0 : Int) ≤ (k : Int) := by omega
      have hltz : (k : Int) < (L : Int) := by omega
      obtain ⟨x, hx⟩ := exP_at (xs := l) (k := k) (by rw [HLN.out]; exact hlt)
      obtain ⟨b, off, B, d, hA, hbl, _, ⟨c0, c1, c2, c3⟩, hps⟩ := HLR.out.at_ hx
      subst hA
      simp only at c0 c1 c2 c3
      have HX := Lib.hid hx
      have HPS := Lib.hid hps
      have HXM := Lib.hid (List.mem_of_getElem? hx)
      clear hx hps
      obtain ⟨w2, N, hw2, hN, hNl, hb2, hxbox⟩ := box_any wr #[.int .i64 x.u, .int .i64 x.s, .int .i64 x.c, .slice B x.ps.length d] 48
      have HXB := Lib.hid hxbox
      have HB2 := Lib.hid (HBW.out.trans (hb2.mono HBW.out.size))
      have HR2 := Lib.hid (HRW.out.below hb2 HRW.out.lt)
      have HPS2 := Lib.hid (HPS.out.keep hb2)
      obtain ⟨x0, x1, x2, x3⟩ := four_heads hxbox
      have HNL := Lib.hid (show w1.heap.size ≤ N by have := HBW.out.size; omega)
      have HNL2 := Lib.hid hNl
      have HNG := Lib.hid (show N ≠ g0 by have := HRW.out.lt; omega)
      obtain ⟨np, hnp⟩ : ∃ np, x.ps.length = np := ⟨_, rfl⟩
      have HNP := Lib.hid hnp
      rw [hnp] at hw2 c3 x3 HXB HPS2
      have hnpl : np ≤ 1000 := by rw [← hnp]; exact HPL.out x HXM.out
      have HPB := Lib.hid hnpl
      clear hb2 hxbox hnp hnpl
      go_wp2_with fail
      clear hw2 hN r0 r1 r2 c0 c1 c2 c3 x0 x1 x2 x3 hNl
      go_loopg [9, 11, 25] np (fun gg _ _ s25 wi => ∃ (j : Nat), j ≤ np ∧ gg = np - j ∧ s25 = .int .i64 j ∧ Below w1.heap.size w1 wi ∧ wi.heap[N]? = w2.heap[N]? ∧ w2.heap.size ≤ wi.heap.size ∧ PcsIn (fun b => b < w.heap.size) wi (.slice B np d) x.ps ∧ RowAt wi g0 (rowN n (ownQ (x.ps.take j) x.u (ownF (l.take k) c) c)))
      case atStart => exact ⟨0, Nat.zero_le _, by omega, rfl, HB2.out, rfl, Nat.le_refl _, HPS2.out, by rw [List.take_zero, rowQ_nil]; exact HR2.out⟩
      case round =>
        obtain ⟨j, hj, hgj, rfl, hbi, hni, hsi, hpi, hri⟩ := hrel
        have HBI := Lib.hid hbi
        have HNI := Lib.hid hni
        have HSI := Lib.hid hsi
        have HPI := Lib.hid hpi
        have HRI := Lib.hid hri
        have HGJ := Lib.hid hgj
        have hnpb : np ≤ 1000 := HPB.out
        clear hbi hni hsi hpi hri hgj
        by_cases hjl : j < np
        · have hj0 : (0 : Int) ≤ (j : Int) := by omega
          have hjz : (j : Int) < (np : Int) := by omega
          obtain ⟨y, hy⟩ := exP_at (xs := x.ps) (k := j) (by rw [HNP.out]; exact hjl)
          obtain ⟨bp, offp, hB, hbpl, _, hyc⟩ := HPI.out.at_ hy
          obtain ⟨y0, y1⟩ := hyc
          subst hB
          have HY := Lib.hid hy
          have HTY := Lib.hid (HTI.out x HXM.out y (List.mem_of_getElem? hy))
          obtain ⟨⟨_, hyt⟩, _⟩ := HTI.out x HXM.out y (List.mem_of_getElem? hy)
          have HYT := Lib.hid hyt
          obtain ⟨w3, M, hw3, hM, hMl, hb3, hybox⟩ := box_any wr #[.int .i64 y.c, .int .u64 y.t] 84
          obtain ⟨z0, z1⟩ := two_heads hybox
          have HB3 := Lib.hid hb3
          have HPI3 := Lib.hid (HPI.out.keep hb3)
          have HRI3 := Lib.hid (HRI.out.below hb3 HRI.out.lt)
          have HXB3 : Hid (w3.heap[N]? = some (.cells #[.int .i64 x.u, .int .i64 x.s, .int .i64 x.c, .slice (some ⟨bp, offp, none⟩) np d] 48 (0, 0))) := Lib.hid (by
            have h1 : N < w2.heap.size := HNL2.out
            have h2 := HSI.out
            exact (hb3.block N (by omega)).trans (HNI.out.trans HXB.out))
          have HB4 := Lib.hid (HBI.out.trans (hb3.mono HBI.out.size))
          have HS3 := Lib.hid (Nat.le_trans HSI.out hb3.size)
          have HN3 : Hid (w3.heap[N]? = w2.heap[N]?) := Lib.hid (HXB3.out.trans HXB.out.symm)
          clear hb3 hybox hy hyt
          cases hc : (y.c != c) with
          | true =>
            have HE := Lib.hid (fun t => ownQ_off HY.out hc (u := x.u) (ownF (l.take k) c) t)
            go_wp2_with fail
            go_roundg (np - (j + 1))
            case measure => have := HGJ.out; omega
            case rel => exact ⟨j + 1, by omega, rfl, by have := HPB.out; go_num, HB4.out, HN3.out, HS3.out, HPI3.out, by rw [rowN_congr (n := n) fun t _ => HE.out t]; exact HRI3.out⟩
          | false =>
            have HE := Lib.hid (fun t => ownI_all HY.out HYT.out hc (u := x.u) (ownF (l.take k) c) t)
            go_wp2_with fail
            clear hw3 hM y0 y1 z0 z1 hMl
            refine (HTK.out y.t _ HYT.out).mono ?_
            rintro e w4 ⟨v4, rfl, hi4, hbi4, hb4⟩
            obtain ⟨A4, c4, rfl⟩ := hi4.form
            have HI4 := Lib.hid hi4
            have HBI4 := Lib.hid hbi4
            have HG3 := Lib.hid HRI3.out.lt
            have HB5 := Lib.hid (HB4.out.trans (hb4.mono HB4.out.size))
            have HRI4 := Lib.hid (HRI3.out.below hb4 HRI3.out.lt)
            have HPI4 := Lib.hid (HPI3.out.keep hb4)
            have HXB4 := Lib.hid (keep_block HXB3.out hb4)
            have HS4 := Lib.hid (Nat.le_trans HS3.out hb4.size)
            obtain ⟨nt, hnt⟩ : ∃ nt, (ticksI y.t 64).length = nt := ⟨_, rfl⟩
            rw [hnt] at HI4 HBI4 ⊢
            have HNT := Lib.hid hnt
            have HNT64 := Lib.hid (show nt ≤ 64 by rw [← hnt, ticksI_length]; exact cntT_le _ _)
            clear hi4 hbi4 hb4 hnt
            go_wp2_with fail
            go_loopg [11, 37] nt (fun gg _ s37 wt => ∃ (i : Nat), i ≤ nt ∧ gg = nt - i ∧ s37 = .int .i64 i ∧ Below w1.heap.size w1 wt ∧ w4.heap.size ≤ wt.heap.size ∧ (∀ b, b < w4.heap.size → b ≠ g0 → wt.heap[b]? = w4.heap[b]?) ∧ RowAt wt g0 (rowN n (ownI ((ticksI y.t 64).take i) x.u (ownQ (x.ps.take j) x.u (ownF (l.take k) c) c))))
            case atStart => exact ⟨0, Nat.zero_le _, by omega, rfl, HB5.out, Nat.le_refl _, fun _ _ _ => rfl, by rw [List.take_zero, rowI_nil]; exact HRI4.out⟩
            case round =>
              obtain ⟨i, hi, hg, rfl, hbt, hst, hkt, hrt⟩ := hrel
              have HBT := Lib.hid hbt
              have HST := Lib.hid hst
              have HKT := Lib.hid hkt
              have HRT := Lib.hid hrt
              have HGI := Lib.hid hg
              have hntb : nt ≤ 64 := HNT64.out
              clear hbt hst hkt hrt hg
              by_cases hil : i < nt
              · have hi0 : (0 : Int) ≤ (i : Int) := by omega
                have hiz : (i : Int) < (nt : Int) := by omega
                obtain ⟨s, hs⟩ := exP_at (xs := ticksI y.t 64) (k := i) (by rw [HNT.out]; exact hil)
                obtain ⟨q, rfl, hq⟩ := ticksI_get hs
                obtain ⟨hq64, hqb, _⟩ := (tick_iff _ _ _).1 hq
                have hqn : q < n := HTY.out.2 q hq64 hqb
                have hq0 : (0 : Int) ≤ (q : Int) := by omega
                have hqz : (q : Int) < (n : Int) := by omega
                obtain ⟨b4, o4, hA4, hb4l, hcl4⟩ : ∃ b4 o4, A4 = some ⟨b4, o4, none⟩ ∧ b4 < w4.heap.size ∧ ∀ (j : Nat) (x : Int), (ticksI y.t 64)[j]? = some x → w4.cell? ⟨b4, o4 + j, none⟩ = some (.int .i64 x) := by
                  obtain ⟨A', c', e, _, h3⟩ := HI4.out
                  injection e with e1 e2 e3
                  obtain ⟨b4, o4, e4, h4, h5⟩ := h3 (by rw [HNT.out]; omega)
                  exact ⟨b4, o4, e1.trans e4, h4, h5⟩
                subst hA4
                have hne4 : b4 ≠ g0 := by
                  have h1 := HBI4.out (by omega) b4 rfl
                  have h2 := HG3.out
                  omega
                have t0 : wr.cell? ⟨b4, o4 + i, none⟩ = some (.int .i64 (q : Int)) := (World.cell?_of_block (w := w4) (HKT.out b4 hb4l hne4)).trans (hcl4 i _ hs)
                have u0 := HRT.out.cell (rowN_get _ hqn)
                have u1 := HRT.out.frozen q
                obtain ⟨x0, x1, x2, x3⟩ := four_heads (show wr.heap[N]? = some (.cells #[.int .i64 x.u, .int .i64 x.s, .int .i64 x.c, .slice (some ⟨bp, offp, none⟩) np d] 48 (0, 0)) from
                  (HKT.out N (by have := heap_lt HXB4.out; omega) (by have h1 := HNL.out; have h2 := HG0.out; have h3 := HNG.out; omega)).trans HXB4.out)
                have HQ := Lib.hid hs
                clear hcl4 hs hq hqb
                go_wp2_with fail
                go_roundg (nt - (i + 1))
                case measure => have := HGI.out; omega
                case rel =>
                  refine ⟨i + 1, by omega, rfl, by have := HNT64.out; go_num, HBT.out.setCell (p := ⟨g0, q, none⟩) (Nat.le_of_eq HG0.out) _, by simpa [World.setCell] using HST.out, fun b hb hne => (Below.heap_setCell _ _ _ _ (by exact hne)).trans (HKT.out b hb hne), ?_⟩
                  have h := HRT.out.set_ q x.u
                  rw [rowN_set, rowN_congr (n := n) fun t _ => ownI_snoc HQ.out x.u _ t] at h
                  exact h
              · have hiz : ¬ (i : Int) < (nt : Int) := by omega
                have HT := Lib.hid (show (ticksI y.t 64).take i = ticksI y.t 64 from List.take_of_length_le (by rw [HNT.out]; omega))
                rw [HT.out, rowN_congr (n := n) fun t _ => HE.out t] at HRT
                go_wp2_with fail
                go_roundg (np - (j + 1))
                case measure => have := HGJ.out; omega
                case rel =>
                  have h4 := heap_lt HXB4.out
                  have hngo : N ≠ g0 := HNG.out
                  refine ⟨j + 1, by omega, rfl, by have := HPB.out; go_num, HBT.out, (HKT.out N h4 hngo).trans (HXB4.out.trans HXB.out.symm), Nat.le_trans HS4.out HST.out, ?_, HRT.out⟩
                  exact HPI4.out.keepF HST.out fun b hb hF => HKT.out b hb (by have := HB1.out.size; have := HG0.out; omega)
        · have hjz : ¬ (j : Int) < (np : Int) := by omega
          have HE := Lib.hid (fun t => ownQ_all HX.out c t)
          have HT := Lib.hid (show x.ps.take j = x.ps from List.take_of_length_le (by rw [HNP.out]; omega))
          rw [HT.out] at HRI
          go_wp2_with fail
          go_roundg (L - (k + 1))
          case measure => have := HG.out; omega
          case rel => exact ⟨k + 1, by omega, rfl, by go_num, HBI.out, by rw [rowN_congr (n := n) fun t _ => (HE.out t).symm]; exact HRI.out⟩
    · have hltz : ¬ (k : Int) < (L : Int) := by omega
      have HE := Lib.hid (show l.take k = l from List.take_of_length_le (by rw [HLN.out]; omega))
      rw [HE.out] at HRW
      go_wp2
      go_ret
      refine ⟨_, rfl, ?_, fun _ b hb => ?_, HB.out⟩
      · have h := HRW.out.ints (by rw [rowN_length]; have := HN.out; omega) n
        rw [rowN_length] at h
        exact h
      · cases hb
        show w.heap.size ≤ g0
        have := HG0.out
        have := HB1.out.size
        omega
end Go.Proofs.YtpfpojehcjmfnaaGreat

/-
  Steps of a region that draws its order: an append, the store of a struct, a row that is made.
  Conditions: none.
-/
set_option linter.unusedVariables false
namespace Go.Proofs.YtpfpojehcjmfnaaGreat
open Go.RowKit

/-- make([]int, n): where. -/
theorem mk_any (W : World) (n : Nat) (h : n ≤ 1000) : ∃ w' g, (Instr.makeSlice 43 (.int .i64 (n : Int)) (.int .i64 (n : Int))).run Tryz.prog W = .ok (.slice (some ⟨g, 0, none⟩) n n) w' ∧ RowAt w' g (zeros n) ∧ W.heap.size ≤ g ∧ g < w'.heap.size ∧ Below W.heap.size W w' :=
  ⟨_, _, mk_ints W n h, RowAt.new _ _, Nat.le_refl _, (RowAt.new W (zeros n)).lt, (Below.refl _ W).alloc (Nat.le_refl _) _⟩
end Go.Proofs.YtpfpojehcjmfnaaGreat

/-
  The document's tables of a plan.
  Conditions: the slice reads as places; the numbers are of their kinds.
-/
set_option linter.unusedVariables false
set_option linter.unusedSimpArgs false
namespace Go.Proofs.YtpfpojehcjmfnaaGreat
open Go.RowKit Go.Sort

end Go.Proofs.YtpfpojehcjmfnaaGreat

/-
  A table appended to a row of tables of one's own: the run.
  Conditions: none.
-/
set_option linter.unusedVariables false
namespace Go.Proofs.YtpfpojehcjmfnaaGreat
open Go.RowKit

theorem app_tb (W : World) (base : Nat) (F : Nat → Prop) (v : Value) (ls : List Rt) (r : Rt) (N : Nat) (hrow : RowTb 65 W base F v ls) (hN : W.heap[N]? = some (.cells #[.int .i64 r.2.2.c, tV1 r, tV2 r] 65 (0, 0)))
    (hr : TbIn (fun b => F b ∧ v.ownBlock ≠ some b) W r) (hl : ls.length ≤ 1000) (hb : base ≤ W.heap.size) :
    ∃ v' w', (Builtin.append_ #[57, 57] 57 #[v, .slice (some ⟨N, 0, none⟩) 1 1]).run Tryz.prog W = .ok v' w' ∧ RowTb 65 w' base F v' (ls ++ [r]) ∧ Below base W w' ∧ (∀ b, b < W.heap.size → v.ownBlock ≠ some b → w'.heap[b]? = W.heap[b]?) ∧ (v'.ownBlock = v.ownBlock ∨ v'.ownBlock = some W.heap.size) := by
  obtain ⟨i, hi, hz0, hz1, hz2⟩ := info_parts Tryz.infoTb
  obtain ⟨v', w', h1, ho, hg, _, hat⟩ := run_append_own_at (P := Tryz.prog) W base 57 57 65 i (.agg #[.int .i64 0, .slice none 0 0, .slice none 0 0]) 3 56 Tryz.underlying57 hi hz0 hz1 hz2 rfl (by decide) v ls.length (rowT ls) hrow.own ⟨N, 0, none⟩ 1 1 (tbCells r) rfl (World.news_of_block hN)
    (by intro u hu; simp [tbCells] at hu; rcases hu with rfl | rfl | rfl <;> rfl) (by unfold maxLen; omega) (by omega) (by omega)
  exact ⟨v', w', h1, hrow.snoc hr ho hg hat, below_grown5 hg hb (own_base5 hrow.own), fun b hl hne => hg.block b hl fun e => hne e.symm, hat⟩
theorem tb_cells {n : Nat} {l : List Pl} {c : Int} {Ao Aw : Option Addr} {co cw Lo Lw : Nat} (h1 : (rowN n (ownF l c)).length = Lo) (h2 : (wholesT l c).length = Lw) :
    tV1 ((Ao, co), (Aw, cw), tabOf n l c) = .slice Ao Lo co ∧ tV2 ((Ao, co), (Aw, cw), tabOf n l c) = .slice Aw Lw cw := by
  subst h1 h2
  exact ⟨rfl, rfl⟩
end Go.Proofs.YtpfpojehcjmfnaaGreat

/-
  The program's tables of a plan.
  Conditions: the slice reads as places; the numbers are of their kinds.
-/
set_option linter.unusedVariables false
set_option linter.unusedSimpArgs false
namespace Go.Proofs.YtpfpojehcjmfnaaGreat
open Go.RowKit Go.Sort

def RetOf (tbs : List Tb) (w : World) (e : Ending) (w' : World) : Prop := ∃ v, e = .returned (.tuple #[v, .int .i64 0]) ∧ TabsAt w' v tbs ∧ Below w.heap.size w w'
theorem ticks_in {f : Int} {m : Nat} {l : List Pl} (h : Right f m l) (ho : ∀ x ∈ l, PlOk x) {n : Nat} (hn : f = (n : Int)) : TicksIn n l := fun x hx y hy => by
  have hp := (h.place x hx).split (by intro e; rw [e] at hy; cases hy)
  refine ⟨(ho x hx).2.2.2 y hy, fun t ht hb => ?_⟩
  have := (hp.kept t ht).2 (nAny_pos.2 ⟨y, hy, hb⟩)
  omega
theorem ticks_16 {m : Nat} (h : m < 65536) : ticksI m 64 = ticksI m 16 := by
  have : ∀ d : Nat, ticksI m (16 + d) = ticksI m 16 := by
    intro d
    induction d with
    | zero => rfl
    | succ d ih => rw [show 16 + (d + 1) = 16 + d + 1 by omega, ticksI_no (bit16 h (by omega)), ih]
  exact this 48

set_option maxRecDepth 100000 in
set_option maxHeartbeats 8000000 in
theorem of_right (n m : Nat) (v : Value) (l : List Pl) (w : World) (h : PlsAt w v l) (hL : LightL l) (hR : Right n m l) :
    Calls Tryz.prog 30 #[planA n m v] w (RetOf (tabsOf n m l) w) := by
  have hm : m < 4294967296 := by have := hR.m16; omega
  have hn64 : n ≤ 64 := by have := hR.f64; omega
  have HCK := Lib.hid (fun W h => planCheck_any n m v l W h hL.wide hm)
  have HTI := Lib.hid (ticks_in hR (fun x hx => (hL.ok x hx).1) rfl)
  have HRI := Lib.hid hR
  have H16 := Lib.hid (ticks_16 hR.m16)
  obtain ⟨A, cA, rfl, hlc, hcm⟩ := h.form
  have HL := Lib.hid h
  obtain ⟨w1, P, hw1, hP, hPl, hb1, hbox⟩ := box_any w #[.int .i64 (n : Int), .int .u32 m, .slice A l.length cA] 26
  obtain ⟨L, hLn⟩ : ∃ L, l.length = L := ⟨_, rfl⟩
  have hl3 : L ≤ 300 := by rw [← hLn]; exact hL.len
  have HCO := Lib.hid (fun W => cores_any n m (.slice A l.length cA) W hm)
  have HOW := Lib.hid (fun c W h => owners_any n m (.slice A l.length cA) l c W h (by omega) (fun x hx => (hL.ok x hx).2) hn64 HTI.out)
  have HWO := Lib.hid (fun c W h => wholes_own n m (.slice A l.length cA) l c W h (by omega))
  rw [H16.out] at HCO
  unfold planA at HCO HWO HOW HCK
  rw [hLn] at HL hlc hw1 hbox HCO HWO HOW HCK ⊢
  have HLN := Lib.hid hLn
  have HB1 := Lib.hid hb1
  have HBOX := Lib.hid hbox
  obtain ⟨r0, r1, r2⟩ := three_heads hbox
  have mixed : Tryz.prog.follows .mixedOrders = true := by kernel_rfl
  clear h hb1 hbox hL hLn hR
  unfold planA
  go_enter Tryz.func30, Tryz.ntmps30
  go_wp2_with fail
  refine (HCK.out _ (HL.out.keep HB1.out)).mono ?_
  rintro e w2 ⟨E, rfl, _, hE, hb2⟩
  obtain rfl : E = 0 := hE.2 HRI.out
  have HB2 := Lib.hid hb2
  have HBX2 := Lib.hid (keep_block HBOX.out hb2)
  clear hb2 hE r0 r1 r2 hw1 hP
  obtain ⟨r0, r1, r2⟩ := three_heads HBX2.out
  go_wp2_with fail
  refine (HCO.out _).mono ?_
  rintro e w3 ⟨v3, rfl, hi3, hb3⟩
  obtain ⟨Ac, cc, rfl⟩ := hi3.form
  have HIC := Lib.hid hi3
  have HB3 := Lib.hid (HB2.out.trans (hb3.mono HB2.out.size))
  obtain ⟨nc, hnc⟩ : ∃ nc, (ticksI m 16).length = nc := ⟨_, rfl⟩
  have hnc16 : nc ≤ 16 := by rw [← hnc, ticksI_length]; exact cntT_le _ _
  rw [hnc] at HIC ⊢
  have HNC := Lib.hid hnc
  clear hi3 hnc r0 r1 r2
  have HBS := Lib.hid (show w1.heap.size ≤ w3.heap.size from HB3.out.size)
  clear hb3
  go_wp2_with fail
  go_loopg [5, 7, 16] nc (fun gg s5 _ s16 wr => ∃ (i : Nat) (ls : List Rt), i ≤ nc ∧ gg = nc - i ∧ s16 = .int .i64 i ∧ Below w3.heap.size w3 wr ∧ tbsR ls = ((ticksI m 16).take i).map (tabOf n l) ∧ RowTb 65 wr w3.heap.size (fun _ => True) s5 ls)
  case atStart => exact ⟨0, [], Nat.zero_le _, by omega, rfl, Below.refl _ _, rfl, RowTb.nil _ _ _ _⟩
  case round =>
    obtain ⟨i, ls, hi1, hg1, rfl, hbw, hls, hrow⟩ := hrel
    have HGI := Lib.hid hg1
    have HBW := Lib.hid hbw
    have HB31 := Lib.hid (HB3.out.trans (hbw.mono HBS.out))
    have HB := Lib.hid (HB1.out.trans (HB31.out.mono HB1.out.size))
    have HIW := Lib.hid (HIC.out.keep hbw)
    have HLS := Lib.hid hls
    have HRW := Lib.hid hrow
    have HBX := Lib.hid (keep_block HBOX.out HB31.out)
    have HLR := Lib.hid (HL.out.keep HB.out)
    clear hg1 hbw hls hrow
    by_cases hil : i < nc
    · have hi0 : (0 : Int) ≤ (i : Int) := by omega
      have hiz : (i : Int) < (nc : Int) := by omega
      obtain ⟨c, hc⟩ := exP_at (xs := ticksI m 16) (k := i) (by rw [HNC.out]; exact hil)
      obtain ⟨bc, oc, hAc, lbc0, hcl⟩ : ∃ bc oc, Ac = some ⟨bc, oc, none⟩ ∧ bc < wr.heap.size ∧ ∀ (j : Nat) (x : Int), (ticksI m 16)[j]? = some x → wr.cell? ⟨bc, oc + j, none⟩ = some (.int .i64 x) := by
        obtain ⟨A', c', e, _, h3⟩ := HIW.out
        injection e with e1 e2 e3
        obtain ⟨b4, o4, e4, h4, h5⟩ := h3 (by rw [HNC.out]; omega)
        exact ⟨b4, o4, e1.trans e4, h4, h5⟩
      subst hAc
      have hcc := hcl i c hc
      have HC := Lib.hid hc
      have hle : ls.length ≤ 1000 := by rw [← tbsR_length, HLS.out, List.length_map, List.length_take]; omega
      have lP := heap_lt HBX.out
      have hPn : u5.ownBlock ≠ some P := fun e => by have h1 := own_base5 HRW.out.own P e; have h2 := HBS.out; omega
      have hk0 : Below wr.heap.size wr wr.drew := (Below.refl _ wr).drew
      have HS2 : Hid (∀ W, Below wr.heap.size wr W → W.cell? ⟨P, 0, none⟩ = some (.int .i64 (n : Int)) ∧ W.cell? ⟨P, 1, none⟩ = some (.int .u32 m) ∧ W.cell? ⟨P, 2, none⟩ = some (.slice A L cA)) := Lib.hid (fun W hk => three_heads (keep_block HBX.out hk))
      clear hcl hc lbc0
      go_wp2_with fail
      clear hcc
      refine wp_region_held_drew (S := fun w' => w'.cell? ⟨P, 0, none⟩ = some (.int .i64 (n : Int)) ∧ w'.cell? ⟨P, 1, none⟩ = some (.int .u32 m) ∧ w'.cell? ⟨P, 2, none⟩ = some (.slice A L cA)) (by kernel_rfl) ?_ (fun hHeld => ?_)
      · exact HS2.out _ hk0
      refine wpAnyH_take (i := 0) (oi := ⟨some 20, _, _, _, _, _⟩) (v := ?_) rfl (by kernel_rfl) (by kernel_rfl) (by kernel_rfl) (fun _ _ _ h => h) (Or.inl ⟨by kernel_rfl, ?_⟩) (by assumption) ?_
      rotate_left
      · (intro w hSw; (try dsimp only at hSw); go_simp; try with_reducible rfl)
      (try simp only [Act.put, List.setIfInBounds_toArray, List.set_cons_zero, List.set_cons_succ])
      refine wpAnyH_take (i := 1) (oi := ⟨some 21, _, _, _, _, _⟩) (v := ?_) rfl (by kernel_rfl) (by kernel_rfl) (by kernel_rfl) (fun _ _ _ h => h) (Or.inl ⟨by kernel_rfl, ?_⟩) (by assumption) ?_
      rotate_left
      · (intro w hSw; (try dsimp only at hSw); go_simp; try with_reducible rfl)
      (try simp only [Act.put, List.setIfInBounds_toArray, List.set_cons_zero, List.set_cons_succ])
      refine wpAnyH_take (i := 2) (oi := ⟨some 22, _, _, _, _, _⟩) (v := ?_) rfl (by kernel_rfl) (by kernel_rfl) (by kernel_rfl) (fun _ _ _ h => h) (Or.inl ⟨by kernel_rfl, ?_⟩) (by assumption) ?_
      rotate_left
      · (intro w hSw; (try dsimp only at hSw); go_simp; try with_reducible rfl)
      (try simp only [Act.put, List.setIfInBounds_toArray, List.set_cons_zero, List.set_cons_succ])
      refine wpAnyH_take (i := 3) (oi := ⟨some 23, _, _, _, _, _⟩) (v := ?_) rfl (by kernel_rfl) (by kernel_rfl) (by kernel_rfl) (fun _ _ _ h => h) (Or.inl ⟨by kernel_rfl, ?_⟩) (by assumption) ?_
      rotate_left
      · (intro w hSw; (try dsimp only at hSw); go_simp; try with_reducible rfl)
      (try simp only [Act.put, List.setIfInBounds_toArray, List.set_cons_zero, List.set_cons_succ])
      refine wpAnyH_take (i := 5) (oi := ⟨some 25, _, _, _, _, _⟩) (v := ?_) rfl (by kernel_rfl) (by kernel_rfl) (by kernel_rfl) (fun _ _ _ h => h) (Or.inl ⟨by kernel_rfl, ?_⟩) (by assumption) ?_
      rotate_left
      · (intro w hSw; (try dsimp only at hSw); go_simp; try with_reducible rfl)
      (try simp only [Act.put, List.setIfInBounds_toArray, List.set_cons_zero, List.set_cons_succ])
      refine wpAnyH_take (i := 6) (oi := ⟨some 26, _, _, _, _, _⟩) (v := ?_) rfl (by kernel_rfl) (by kernel_rfl) (by kernel_rfl) (fun _ _ _ h => h) (Or.inl ⟨by kernel_rfl, ?_⟩) (by assumption) ?_
      rotate_left
      · (intro w hSw; (try dsimp only at hSw); go_simp; try with_reducible rfl)
      (try simp only [Act.put, List.setIfInBounds_toArray, List.set_cons_zero, List.set_cons_succ])
      refine wpAnyH_ready (rs := [4]) (by kernel_rfl) (by simp) ?_
      refine AllReadyH.cons (o := ⟨some 24, _, _, _, _, _⟩) rfl (fun K hK => ?_) AllReadyH.nil
      rw [if_pos (by kernel_rfl)]
      go_simp
      go_at_call 57; refine (HOW.out c _ (HLR.out.keep hk0)).mono ?_; rintro e wq1 ⟨vo, rfl, hio, hbo, hb1⟩
      obtain ⟨Ao, co, rfl⟩ := hio.form
      have hk1 := hk0.trans (hb1.mono hk0.size)
      refine hK.out _ _ ?_ (fun hHeld => ?_)
      · exact HS2.out _ hk1
      clear hK K
      (try simp only [Act.put, List.setIfInBounds_toArray, List.set_cons_zero, List.set_cons_succ])
      obtain ⟨Lo, hLo⟩ : ∃ Lo, (rowN n (ownF l c)).length = Lo := ⟨_, rfl⟩
      rw [hLo] at hio hbo ⊢
      refine wpAnyH_ready (rs := [7]) (by kernel_rfl) (by simp) ?_
      refine AllReadyH.cons (o := ⟨some 27, _, _, _, _, _⟩) rfl (fun K hK => ?_) AllReadyH.nil
      rw [if_pos (by kernel_rfl)]
      go_simp
      go_at_call 58; refine (HWO.out c _ (HLR.out.keep hk1)).mono ?_; rintro e wq2 ⟨vw, rfl, hsw, hbw2, hb2⟩
      obtain ⟨Aw, cw, rfl⟩ := hsw.form
      have hk2 := hk1.trans (hb2.mono hk1.size)
      refine hK.out _ _ ?_ (fun hHeld => ?_)
      · exact HS2.out _ hk2
      clear hK K
      (try simp only [Act.put, List.setIfInBounds_toArray, List.set_cons_zero, List.set_cons_succ])
      obtain ⟨Lw, hLw⟩ : ∃ Lw, (wholesT l c).length = Lw := ⟨_, rfl⟩
      rw [hLw] at hsw hbw2 ⊢
      refine wpAnyH_take (i := 8) (oi := ⟨some 28, _, _, _, _, _⟩) (v := ?_) rfl (by kernel_rfl) (by kernel_rfl) (by kernel_rfl) (fun _ _ _ h => h) (Or.inl ⟨by kernel_rfl, ?_⟩) (by assumption) ?_
      rotate_left
      · (intro w hSw; (try dsimp only at hSw); go_simp; try with_reducible rfl)
      (try simp only [Act.put, List.setIfInBounds_toArray, List.set_cons_zero, List.set_cons_succ])
      refine wpAnyH_ready (rs := [9]) (by kernel_rfl) (by simp) ?_
      refine AllReadyH.cons (o := ⟨some 29, _, _, _, _, _⟩) rfl (fun K hK => ?_) AllReadyH.nil
      obtain ⟨wq3, N, hwN, hNe, hNl, hb3, hNb⟩ := box_any wq2 #[.int .i64 c, .slice Ao Lo co, .slice Aw Lw cw] 65
      have hk3 := hk2.trans (hb3.mono hk2.size)
      rw [if_pos (by kernel_rfl)]
      go_simp
      refine hK.out _ _ ?_ (fun hHeld => ?_)
      · exact HS2.out _ hk3
      clear hK K
      (try simp only [Act.put, List.setIfInBounds_toArray, List.set_cons_zero, List.set_cons_succ])
      clear hwN
      refine wpAnyH_ready (rs := [10]) (by kernel_rfl) (by simp) ?_
      refine AllReadyH.cons (o := ⟨some 30, _, _, _, _, _⟩) rfl (fun K hK => ?_) AllReadyH.nil
      obtain ⟨e1, e2⟩ := tb_cells (Ao := Ao) (Aw := Aw) (co := co) (cw := cw) hLo hLw
      have hrr : TbIn (fun b => True ∧ u5.ownBlock ≠ some b) wq3 ((Ao, co), (Aw, cw), tabOf n l c) := by
        have hlt : ∀ b, u5.ownBlock = some b → b < wr.heap.size := fun b hb => own_lt HRW.out.own hb
        refine ⟨?_, ?_, ?_, ?_⟩
        · rw [e1]; exact (hio.keep hb2).keep hb3
        · rw [e2]; exact hsw.keep hb3
        · intro h0 b hb
          rw [e1] at hb
          exact ⟨trivial, fun e => by have := hlt b e; have h1 := hbo (by rw [← hLo]; exact h0) b hb; have h2 := hk0.size; omega⟩
        · intro h0 b hb
          rw [e2] at hb
          exact ⟨trivial, fun e => by have := hlt b e; have h1 := hbw2 (by rw [← hLw]; exact h0) b hb; have h2 := hk1.size; omega⟩
      have hNb2 : wq3.heap[N]? = some (.cells #[.int .i64 c, tV1 ((Ao, co), (Aw, cw), tabOf n l c), tV2 ((Ao, co), (Aw, cw), tabOf n l c)] 65 (0, 0)) := by rw [e1, e2]; exact hNb
      obtain ⟨v6, w6, hrun, hrow6, hb6, hk6, hat6⟩ := app_tb wq3 w3.heap.size (fun _ => True) u5 ls ((Ao, co), (Aw, cw), tabOf n l c) N (HRW.out.keep hk3) hNb2 hrr hle (Nat.le_trans HBW.out.size hk3.size)
      have lP3 : P < wq3.heap.size := Nat.lt_of_lt_of_le lP hk3.size
      refine step_append_run16 rfl _ _ 57 57 rfl _ _ (by simp [Act.eval, Act.put]) (by simp [Act.eval, Act.put]) hrun ?_
      refine hK.out _ _ ?_ (fun hHeld => ?_)
      · exact ⟨(World.cell?_of_block (hk6 P lP3 hPn)).trans (HS2.out _ hk3).1, (World.cell?_of_block (hk6 P lP3 hPn)).trans (HS2.out _ hk3).2.1, (World.cell?_of_block (hk6 P lP3 hPn)).trans (HS2.out _ hk3).2.2⟩
      clear hK K
      (try simp only [Act.put, List.setIfInBounds_toArray, List.set_cons_zero, List.set_cons_succ])
      refine wpAnyH_take (i := 11) (oi := ⟨some 5, _, _, _, _, _⟩) (v := ?_) rfl (by kernel_rfl) (by kernel_rfl) (by kernel_rfl) (fun _ _ _ h => h) (Or.inl ⟨by kernel_rfl, ?_⟩) (by assumption) ?_
      rotate_left
      · (intro w hSw; (try dsimp only at hSw); go_simp; try with_reducible rfl)
      (try simp only [Act.put, List.setIfInBounds_toArray, List.set_cons_zero, List.set_cons_succ])
      refine wpAnyH_done (by kernel_rfl) ?_ _
      have HB6 := Lib.hid (HBW.out.trans ((hk3.mono HBW.out.size).trans hb6))
      have HT6 : Hid (tbsR (ls ++ [((Ao, co), (Aw, cw), tabOf n l c)]) = ((ticksI m 16).take (i + 1)).map (tabOf n l)) := Lib.hid (by
        rw [tbsR_snoc, HLS.out, List.take_add_one, HC.out, Option.toList_some, List.map_append]
        rfl)
      have HR6 := Lib.hid hrow6
      clear hHeld
      go_wp2_with fail
      go_roundg (nc - (i + 1))
      case measure => have := HGI.out; omega
      case rel => exact ⟨i + 1, _, by omega, rfl, by go_num, HB6.out, HT6.out, HR6.out⟩
    · have hiz : ¬ (i : Int) < (nc : Int) := by omega
      have HE : Hid (tbsR ls = tabsOf n m l) := Lib.hid (by rw [HLS.out, List.take_of_length_le (by rw [HNC.out]; omega)]; rfl)
      have HF := Lib.hid (tabs_of_own HRW.out)
      rw [HE.out] at HF
      go_wp2_with fail
      go_ret2
      exact ⟨_, rfl, HF.out, HB.out⟩
end Go.Proofs.YtpfpojehcjmfnaaGreat

/-
  The first answers that the document gives come out.
  Conditions: none.
-/
set_option linter.unusedVariables false
set_option linter.unusedSimpArgs false
namespace Go.Proofs.YtpfpojehcjmfnaaGreat
open Go.RowKit

def exO : List Sp := [(1, 3)]
theorem exN_right : Right 4 3 exN := by have := ex_ok.is.right; rw [ex_full] at this; exact this
theorem exN_light : LightL exN := ⟨by decide, by have := ex_ok.is.ok; rw [ex_full] at this; exact this⟩
theorem exO_ints : IntsS exO := by
  intro s hs
  simp only [exO, List.mem_cons, List.not_mem_nil, or_false] at hs
  subst hs
  exact ⟨by decide, by decide⟩
theorem exO_fit : fitT 4 1 [] (sortT exO) = ([⟨1, 3, 0, []⟩], []) := by decide +kernel
theorem exO_why : Why 4 1 [] exO 0 := .inr (.inr (.inr ⟨right_nil (by decide) (by decide) (by decide) (by decide) (by decide +kernel), by decide +kernel, anyB_nil _, rfl⟩))
theorem exO_new : newE 4 exO = 0 ∧ sumM (newT exO) = 3 := by decide +kernel
theorem exN_tabs : (tabsOf 4 3 exN).length = 2 := by decide +kernel

set_option maxRecDepth 100000 in
set_option maxHeartbeats 8000000 in
theorem begins20_any (w : World) : Calls Tryz.prog 29 #[] w (RetB (.bool true) w) := by
  obtain ⟨w3, S, hw3, hS, hSl, hb3, hsb⟩ := box_any w #[.int .i64 1, .int .i64 3, .int .i64 2, .int .i64 3, .int .i64 3, .int .i64 2] 52
  have HB3 := Lib.hid hb3
  have HW3 : Hid (SpansAt w3 (.slice (some ⟨S, 0, none⟩) 3 3) exA) := Lib.hid (by
    have := lit_spans w exA 52 (by decide)
    rw [hS] at this
    rw [← hw3]
    exact this)
  have HSP := Lib.hid (full_any 4 3 (.slice (some ⟨S, 0, none⟩) 3 3) exA w3 HW3.out exA_ints (by decide) (by decide))
  clear hb3 hsb
  go_enter Tryz.func29, Tryz.ntmps29
  go_wp2_with fail
  refine HSP.out.mono ?_
  rintro e w4 ⟨E, hwhy, hb4, hcase⟩
  have hE : E = 0 := hwhy.unique ex_ok.why
  obtain ⟨_, v4, rfl, hpl4⟩ := hcase.resolve_right fun h => h.1 hE
  rw [ex_full] at hpl4
  have HB4 := Lib.hid (HB3.out.trans (hb4.mono HB3.out.size))
  obtain ⟨A4, d4, rfl, _, _⟩ := hpl4.form
  have hlen : exN.length = 3 := rfl
  rw [hlen] at hpl4 ⊢
  obtain ⟨w5, Q, hw5, hQ, hQl, hb5, hqb⟩ := box_any w4 #[.int .i64 0, .int .u32 0, .slice none 0 0] 26
  have HQB := Lib.hid hqb
  obtain ⟨w6, hw6⟩ : ∃ w6, w5.setRow Q #[.int .i64 4, .int .u32 3, .slice A4 3 d4] = w6 := ⟨_, rfl⟩
  have hb6 : Below w4.heap.size w4 w6 := by rw [← hw6]; exact below_row hb5 (by omega) _
  have HB6 := Lib.hid (HB4.out.trans (hb6.mono HB4.out.size))
  have HQ6 : Hid (w6.heap[Q]? = some (.cells #[.int .i64 4, .int .u32 3, .slice A4 3 d4] 26 (0, 0))) := Lib.hid (by rw [← hw6]; exact setRow_heap _ _ _ _ _ _ hqb)
  have HPL6 := Lib.hid (hpl4.keep hb6)
  have HOF := Lib.hid (of_right 4 3 (.slice A4 3 d4) exN w6 HPL6.out exN_light exN_right)
  unfold planA RetOf at HOF
  obtain ⟨p0, p1, p2⟩ := three_heads HQ6.out
  clear hb4 hb5 hb6 hpl4 hqb hwhy hE hw3 hS hcase
  unfold planA
  go_wp2_with (refine wpList_store_row rfl _ _ _ rfl Q #[.int .i64 4, .int .u32 3, .slice A4 3 d4] rfl rfl 26 _ HQB.out (Tryz.sizePn _ _ _) rfl (one3 _ _ _ _ _) ?_)
  refine HOF.out.mono ?_
  rintro e w7 ⟨v7, rfl, ht7, hb7⟩
  have HB7 := Lib.hid (HB6.out.trans (hb7.mono HB6.out.size))
  have HQ7 := Lib.hid (keep_block HQ6.out hb7)
  have HPL7 := Lib.hid (HPL6.out.keep hb7)
  obtain ⟨A7, d7, rfl, _, _⟩ := ht7.form
  rw [exN_tabs]
  obtain ⟨w8, S8, hw8, hS8, hSl8, hb8, hsb8⟩ := box_any w7 #[.int .i64 1, .int .i64 3] 52
  have HB8 := Lib.hid (HB7.out.trans (hb8.mono HB7.out.size))
  have HQ8 := Lib.hid (keep_block HQ7.out hb8)
  have HPL8 := Lib.hid (HPL7.out.keep hb8)
  have HW8 : Hid (SpansAt w8 (.slice (some ⟨S8, 0, none⟩) 1 1) exO) := Lib.hid (by
    have := lit_spans w7 exO 52 (by decide)
    rw [hS8] at this
    rw [← hw8]
    exact this)
  have HFI := Lib.hid (fit_any 4 1 (.slice none 0 0) [] (.slice (some ⟨S8, 0, none⟩) 1 1) exO w8 (PlsIn.nil _ _) light_nil HW8.out exO_ints (by decide) (by decide))
  unfold planA at HFI
  clear hb7 hb8 ht7 hsb8 p0 p1 p2 hw5 hw6 hQ
  go_wp2_with fail
  refine HFI.out.mono ?_
  rintro e w9 ⟨E, hwhy, hb9, hcase⟩
  have hE : E = 0 := hwhy.unique exO_why
  obtain ⟨_, v9, vo, rfl, hpl9, hvo⟩ := hcase.resolve_right fun h => h.1 hE
  rw [exO_fit] at hpl9 hvo
  have HB9 := Lib.hid (HB8.out.trans (hb9.mono HB8.out.size))
  have HQ9 := Lib.hid (keep_block HQ8.out hb9)
  have HPL9 := Lib.hid (HPL8.out.keep hb9)
  obtain ⟨A9, d9, rfl, _, _⟩ := hpl9.form
  obtain ⟨Ao, co, rfl, _⟩ := hvo
  obtain ⟨w10, R, hw10, hR, hRl, hb10, hrb⟩ := box_any w9 #[.int .i64 0, .int .u32 0, .slice none 0 0] 26
  have HRB := Lib.hid hrb
  obtain ⟨w11, hw11⟩ : ∃ w11, w10.setRow R #[.int .i64 4, .int .u32 1, .slice A9 1 d9] = w11 := ⟨_, rfl⟩
  have hb11 : Below w9.heap.size w9 w11 := by rw [← hw11]; exact below_row hb10 (by omega) _
  have HB11 := Lib.hid (HB9.out.trans (hb11.mono HB9.out.size))
  have HQ11 := Lib.hid (keep_block HQ9.out hb11)
  have HPL11 := Lib.hid (HPL9.out.keep hb11)
  obtain ⟨w12, S12, hw12, hS12, hSl12, hb12, hsb12⟩ := box_any w11 #[.int .i64 1, .int .i64 3] 52
  have HB12 := Lib.hid (HB11.out.trans (hb12.mono HB11.out.size))
  have HQ12 := Lib.hid (keep_block HQ11.out hb12)
  have HPL12 := Lib.hid (HPL11.out.keep hb12)
  have HW12 : Hid (SpansAt w12 (.slice (some ⟨S12, 0, none⟩) 1 1) exO) := Lib.hid (by
    have := lit_spans w11 exO 52 (by decide)
    rw [hS12] at this
    rw [← hw12]
    exact this)
  have HNW := Lib.hid (new_ok 4 (.slice (some ⟨S12, 0, none⟩) 1 1) exO w12 HW12.out exO_ints exO_new.1)
  clear hb9 hb10 hb11 hb12 hrb hsb12 hpl9 hwhy hcase hE hw8 hS8
  unfold planA
  simp only [List.length_cons, List.length_nil, Nat.zero_add]
  go_wp2_with (refine wpList_store_row rfl _ _ _ rfl R #[.int .i64 4, .int .u32 1, .slice A9 1 d9] rfl rfl 26 _ HRB.out (Tryz.sizePn _ _ _) rfl (one3 _ _ _ _ _) ?_)
  refine HNW.out.mono ?_
  rintro e w13 ⟨rb, rfl, hh, hb13⟩
  have HB13 := Lib.hid (HB12.out.trans (hb13.mono HB12.out.size))
  have HQ13 := Lib.hid (keep_block HQ12.out hb13)
  have HPL13 := Lib.hid (HPL12.out.keep hb13)
  have HTO := Lib.hid (Held.totalL hh (new_okL exO_new.1))
  rw [exO_new.2] at HTO
  clear hb13 hh hw10 hR hw11 hw12 hS12
  go_wp2_with fail
  refine HTO.out.mono ?_
  rintro e w14 ⟨rfl, hb14⟩
  have HB14 := Lib.hid (HB13.out.trans (hb14.mono HB13.out.size))
  have HQ14 := Lib.hid (keep_block HQ13.out hb14)
  have HRO := Lib.hid (chRooms_any 4 3 (.slice A4 3 d4) exN w14 (HPL13.out.keep hb14) exN_light (by decide))
  unfold planA at HRO
  obtain ⟨q0, q1, q2⟩ := three_heads HQ14.out
  clear hb14
  go_wp2_with fail
  refine HRO.out.mono ?_
  rintro e w15 ⟨hb15, hro⟩
  obtain ⟨_, R1, rfl, hR1, hrow1⟩ := hro.resolve_right fun h => h.1 exN_right
  have HB15 := Lib.hid (HB14.out.trans (hb15.mono HB14.out.size))
  clear q0 q1 q2 hb15 hro hrow1 hR1
  go_wp2_with fail
  go_ret
  exact ⟨rfl, HB15.out⟩
end Go.Proofs.YtpfpojehcjmfnaaGreat
