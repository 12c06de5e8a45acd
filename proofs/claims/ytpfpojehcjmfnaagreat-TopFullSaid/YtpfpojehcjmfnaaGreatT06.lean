/-
  rooms, Windows, Room and Free of the program.
  Conditions: the slice reads as places; the numbers are small.
-/
import Derived.Test.YtpfpojehcjmfnaaGreatT05
import Derived.Test.YtpfpojehcjmfnaaGreatT03
import Derived.Deep.WholeRow
import Derived.StillTailTactics

/-
  Put of the document.
  Conditions: the slices read as places, as pieces; where the place belongs is told.
-/
set_option linter.unusedVariables false
set_option linter.unusedSimpArgs false
namespace Go.Proofs.YtpfpojehcjmfnaaGreat
open Go.RowKit

/-- Where a unit's place belongs. -/
structure PutAt (d : List Pl) (u : Int) (k : Nat) : Prop where
  le : k ≤ d.length
  less : ∀ (j : Nat) (y : Pl), d[j]? = some y → (y.u < u ↔ j < k)
def putPl (d : List Pl) (x : Pl) (k : Nat) : List Pl := d.take k ++ [x] ++ d.drop k
theorem plsR_append (a b : List Rp) : plsR (a ++ b) = plsR a ++ plsR b := by simp [plsR]
theorem plsR_take (a : List Rp) (k : Nat) : plsR (a.take k) = (plsR a).take k := by simp [plsR]
theorem plsR_drop (a : List Rp) (k : Nat) : plsR (a.drop k) = (plsR a).drop k := by simp [plsR]
end Go.Proofs.YtpfpojehcjmfnaaGreat

/-
  windows of the program: each core's windows in an array.
  Conditions: the slice reads as places; the numbers are of their kinds.
-/
set_option linter.unusedVariables false
namespace Go.Proofs.YtpfpojehcjmfnaaGreat
open Go.RowKit Go.Sort

/-- Sixteen words, sixteen numbers. -/
def arrU (g : Nat → Nat) : Array Value := ((List.range 16).map fun i => Value.int .u64 (g i : Nat)).toArray
def arrI (g : Nat → Int) : Array Value := ((List.range 16).map fun i => Value.int .i64 (g i)).toArray
theorem arrU_size (g : Nat → Nat) : (arrU g).size = 16 := by simp [arrU]
theorem arrI_size (g : Nat → Int) : (arrI g).size = 16 := by simp [arrI]
theorem arrU_get (g : Nat → Nat) {i : Nat} (h : i < 16) : (arrU g)[i]? = some (.int .u64 (g i : Nat)) := by simp [arrU, h]
theorem arrI_get (g : Nat → Int) {i : Nat} (h : i < 16) : (arrI g)[i]? = some (.int .i64 (g i)) := by simp [arrI, h]
theorem arrU_set (g : Nat → Nat) (j x : Nat) : (arrU g).setIfInBounds j (.int .u64 x) = arrU fun i => if i = j then x else g i := by
  apply Array.ext_getElem?
  intro i
  rw [Array.getElem?_setIfInBounds]
  by_cases hi : i < 16
  · rw [arrU_get _ hi, arrU_get _ hi]
    by_cases e : j = i
    · subst e
      simp [arrU_size, hi]
    · rw [if_neg e, if_neg (fun h => e h.symm)]
  · rw [Array.getElem?_eq_none (by rw [arrU_size]; omega), Array.getElem?_eq_none (by rw [arrU_size]; omega)]
    split
    · rw [if_neg (by rw [arrU_size]; omega)]
    · rfl
theorem arrI_set (g : Nat → Int) (j : Nat) (x : Int) : (arrI g).setIfInBounds j (.int .i64 x) = arrI fun i => if i = j then x else g i := by
  apply Array.ext_getElem?
  intro i
  rw [Array.getElem?_setIfInBounds]
  by_cases hi : i < 16
  · rw [arrI_get _ hi, arrI_get _ hi]
    by_cases e : j = i
    · subst e
      simp [arrI_size, hi]
    · rw [if_neg e, if_neg (fun h => e h.symm)]
  · rw [Array.getElem?_eq_none (by rw [arrI_size]; omega), Array.getElem?_eq_none (by rw [arrI_size]; omega)]
    split
    · rw [if_neg (by rw [arrI_size]; omega)]
    · rfl
theorem arrU_congr {g h : Nat → Nat} (e : ∀ i, i < 16 → g i = h i) : arrU g = arrU h := by
  apply Array.ext_getElem?
  intro i
  by_cases hi : i < 16
  · rw [arrU_get _ hi, arrU_get _ hi, e i hi]
  · rw [Array.getElem?_eq_none (by rw [arrU_size]; omega), Array.getElem?_eq_none (by rw [arrU_size]; omega)]
theorem arrI_congr {g h : Nat → Int} (e : ∀ i, i < 16 → g i = h i) : arrI g = arrI h := by
  apply Array.ext_getElem?
  intro i
  by_cases hi : i < 16
  · rw [arrI_get _ hi, arrI_get _ hi, e i hi]
  · rw [Array.getElem?_eq_none (by rw [arrI_size]; omega), Array.getElem?_eq_none (by rw [arrI_size]; omega)]
theorem arrU_one (g : Nat → Nat) : (arrU g).all (·.oneCell') = true := by
  rw [Array.all_eq_true_iff_forall_mem]
  intro v hv
  simp only [arrU, List.mem_toArray, List.mem_map] at hv
  obtain ⟨i, _, rfl⟩ := hv
  rfl
theorem arrI_one (g : Nat → Int) : (arrI g).all (·.oneCell') = true := by
  rw [Array.all_eq_true_iff_forall_mem]
  intro v hv
  simp only [arrI, List.mem_toArray, List.mem_map] at hv
  obtain ⟨i, _, rfl⟩ := hv
  rfl
theorem arrU_zero : arrU (fun _ => 0) = #[.int .u64 0, .int .u64 0, .int .u64 0, .int .u64 0, .int .u64 0, .int .u64 0, .int .u64 0, .int .u64 0, .int .u64 0, .int .u64 0, .int .u64 0, .int .u64 0, .int .u64 0, .int .u64 0, .int .u64 0, .int .u64 0] := rfl
theorem arrI_zero : arrI (fun _ => 0) = #[.int .i64 0, .int .i64 0, .int .i64 0, .int .i64 0, .int .i64 0, .int .i64 0, .int .i64 0, .int .i64 0, .int .i64 0, .int .i64 0, .int .i64 0, .int .i64 0, .int .i64 0, .int .i64 0, .int .i64 0, .int .i64 0] := rfl
theorem Tryz.sizeAU (g : Nat → Nat) : (Tryz.prog.info? 146).map (·.size) = some (arrU g).size := by rw [arrU_size]; kernel_rfl
theorem Tryz.sizeAI (g : Nat → Int) : (Tryz.prog.info? 93).map (·.size) = some (arrI g).size := by rw [arrI_size]; kernel_rfl
/-- The block is these words. -/
abbrev ArrU (W : World) (N : Nat) (g : Nat → Nat) : Prop := W.heap[N]? = some (.cells (arrU g) 146 (0, 0))
abbrev ArrI (W : World) (N : Nat) (g : Nat → Int) : Prop := W.heap[N]? = some (.cells (arrI g) 93 (0, 0))
theorem ArrU.cell {W : World} {N : Nat} {g : Nat → Nat} (h : ArrU W N g) {i : Nat} (hi : i < 16) : W.cell? ⟨N, i, none⟩ = some (.int .u64 (g i : Nat)) := by rw [cell_of_row W N i _ _ _ h, arrU_get _ hi]
theorem ArrI.cell {W : World} {N : Nat} {g : Nat → Int} (h : ArrI W N g) {i : Nat} (hi : i < 16) : W.cell? ⟨N, i, none⟩ = some (.int .i64 (g i)) := by rw [cell_of_row W N i _ _ _ h, arrI_get _ hi]
theorem ArrU.frozen {W : World} {N : Nat} {g : Nat → Nat} (h : ArrU W N g) (i : Nat) : W.frozen? ⟨N, i, none⟩ = false := by
  have h' : W.heap[N]? = some (.cells (arrU g) 146 (0, 0)) := h
  simp [World.frozen?, h']
theorem ArrI.frozen {W : World} {N : Nat} {g : Nat → Int} (h : ArrI W N g) (i : Nat) : W.frozen? ⟨N, i, none⟩ = false := by
  have h' : W.heap[N]? = some (.cells (arrI g) 93 (0, 0)) := h
  simp [World.frozen?, h']
theorem ArrU.set {W : World} {N : Nat} {g : Nat → Nat} (h : ArrU W N g) (j x : Nat) : ArrU (W.setCell ⟨N, j, none⟩ (.int .u64 x)) N fun i => if i = j then x else g i := by
  have := heap_setCell_mem W N j _ _ _ (.int .u64 x) h
  rwa [arrU_set] at this
theorem ArrI.set {W : World} {N : Nat} {g : Nat → Int} (h : ArrI W N g) (j : Nat) (x : Int) : ArrI (W.setCell ⟨N, j, none⟩ (.int .i64 x)) N fun i => if i = j then x else g i := by
  have := heap_setCell_mem W N j _ _ _ (.int .i64 x) h
  rwa [arrI_set] at this

def winF (m : Nat) (q : List Pc) (i : Nat) : Nat := if m.testBit i = true then winN q (i : Int) else 0
def ApartP (m : Nat) (q : List Pc) : Prop := ∀ i : Nat, i < 16 → m.testBit i = true → ∀ t, t < 64 → nOn q (i : Int) t ≤ 1
theorem winF_nil (m : Nat) : arrU (winF m []) = arrU fun _ => 0 := arrU_congr fun i _ => by
  unfold winF
  rw [winN_nil]
  split <;> rfl
theorem nOn_skip {m : Nat} {q : List Pc} {y : Pc} (h : hasC m y.c = false) {i : Nat} (hi : i < 16) (hb : m.testBit i = true) (t : Nat) : nOn (q ++ [y]) (i : Int) t = nOn q (i : Int) t := by
  rw [nOn_snoc]
  have : onB (i : Int) t y = false := by
    unfold onB
    rw [decide_eq_false (fun e => by rw [e, hasC_nat hi, hb] at h; cases h), Bool.false_and]
  rw [this]
  rfl
theorem winF_skip {m : Nat} {q : List Pc} {y : Pc} (h : hasC m y.c = false) : arrU (winF m (q ++ [y])) = arrU (winF m q) := arrU_congr fun i hi => by
  unfold winF
  split
  · rename_i hb
    exact setP_congr fun t _ => by rw [nOn_skip h hi hb]
  · rfl
theorem apart_skip {m : Nat} {q : List Pc} {y : Pc} (h : hasC m y.c = false) : ApartP m (q ++ [y]) ↔ ApartP m q :=
  ⟨fun hp i hi hb t ht => by rw [← nOn_skip h hi hb]; exact hp i hi hb t ht, fun hp i hi hb t ht => by rw [nOn_skip h hi hb]; exact hp i hi hb t ht⟩
theorem nOn_hit {q : List Pc} {C yt : Nat} (t : Nat) : nOn (q ++ [⟨(C : Int), yt⟩]) (C : Int) t = nOn q (C : Int) t + (yt.testBit t).toNat := by
  rw [nOn_snoc]
  unfold onB
  rw [decide_eq_true rfl, Bool.true_and]
theorem nOn_far {q : List Pc} {C yt i : Nat} (h : i ≠ C) (t : Nat) : nOn (q ++ [⟨(C : Int), yt⟩]) (i : Int) t = nOn q (i : Int) t := by
  rw [nOn_snoc]
  unfold onB
  rw [decide_eq_false (show ¬ ((C : Int) = (i : Int)) by omega), Bool.false_and]
  rfl
theorem winN_hit {q : List Pc} {C yt : Nat} (hy : yt < 18446744073709551616) : winN q (C : Int) ||| yt = winN (q ++ [⟨(C : Int), yt⟩]) (C : Int) := by
  have hl : winN q (C : Int) ||| yt < 18446744073709551616 := by
    have h1 := winN_lt q (C : Int)
    rw [← two64] at h1 hy ⊢
    exact Nat.or_lt_two_pow h1 hy
  refine eq_setP hl fun t ht => ?_
  rw [Nat.testBit_or, winN_bit ht, nOn_hit]
  cases yt.testBit t with
  | false => simp
  | true => simp
theorem winF_hit {m : Nat} {q : List Pc} {C yt : Nat} (hb : m.testBit C = true) (hy : yt < 18446744073709551616) :
    (arrU fun i => if i = C then winF m q C ||| yt else winF m q i) = arrU (winF m (q ++ [⟨(C : Int), yt⟩])) := arrU_congr fun i hi => by
  unfold winF
  by_cases e : i = C
  · subst e
    rw [if_pos rfl, if_pos hb, if_pos hb, winN_hit hy]
  · rw [if_neg e]
    split
    · exact setP_congr fun t _ => by rw [nOn_far e]
    · rfl
theorem apart_hit {m : Nat} {q : List Pc} {C yt : Nat} (hC : C < 16) (hb : m.testBit C = true) (hy : yt < 18446744073709551616) :
    ApartP m (q ++ [⟨(C : Int), yt⟩]) ↔ ApartP m q ∧ winF m q C &&& yt = 0 := by
  have hw : winF m q C = winN q (C : Int) := if_pos hb
  rw [hw]
  constructor
  · intro h
    refine ⟨fun i hi hbi t ht => ?_, ?_⟩
    · have := h i hi hbi t ht
      by_cases e : i = C
      · subst e; rw [nOn_hit] at this; omega
      · rwa [nOn_far e] at this
    · have hl : winN q (C : Int) &&& yt < 18446744073709551616 := Nat.lt_of_le_of_lt Nat.and_le_right hy
      refine eq_of_bits hl (by decide) fun t ht => ?_
      rw [Nat.testBit_and, Nat.zero_testBit, winN_bit ht]
      have := h C hC hb t ht
      rw [nOn_hit] at this
      cases hyt : yt.testBit t with
      | false => simp
      | true =>
        rw [hyt] at this
        simp only [Bool.toNat_true] at this
        rw [decide_eq_false (show ¬ 0 < nOn q (C : Int) t by omega)]
        rfl
  · rintro ⟨h, hz⟩ i hi hbi t ht
    have h0 := h i hi hbi t ht
    by_cases e : i = C
    · subst e
      rw [nOn_hit]
      have hbit : (winN q (i : Int) &&& yt).testBit t = false := by rw [hz]; exact Nat.zero_testBit t
      rw [Nat.testBit_and, winN_bit ht] at hbit
      cases hyt : yt.testBit t with
      | false => simpa using h0
      | true =>
        rw [hyt, Bool.and_true] at hbit
        have := of_decide_eq_false hbit
        simp only [Bool.toNat_true]
        omega
    · rw [nOn_far e]; exact h0

/-- What windows answers. -/
def RetWin (m : Nat) (q : List Pc) (w : World) (e : Ending) (w' : World) : Prop := ∃ ap : Bool, e = .returned (.tuple #[.agg (arrU (winF m q)), .bool ap]) ∧ (ap = true ↔ ApartP m q) ∧ Below w.heap.size w w'
theorem take_pcs {ps : List Pc} {j : Nat} {y : Pc} (hy : ps[j]? = some y) : ps.take (j + 1) = ps.take j ++ [y] := by rw [List.take_add_one, hy]; rfl

set_option maxRecDepth 100000 in
set_option maxHeartbeats 4000000 in
theorem windows_any (f : Int) (m : Nat) (v : Value) (l : List Pl) (w : World) (h : PlsAt w v l) (hl : l.length ≤ 1000) (ho : ∀ x ∈ l, PlOk x ∧ x.ps.length ≤ 1000) (hm : m < 4294967296) :
    Calls Tryz.prog 101 #[planA f m v] w (RetWin m (pcsOf l) w) := by
  have HO := Lib.hid ho
  have HHC := Lib.hid (fun v c W => hasCore_any f m v c W hm)
  unfold planA at HHC
  clear ho hm
  obtain ⟨A, cA, rfl, hlc, hcm⟩ := h.form
  have HL := Lib.hid h
  obtain ⟨w1, P, hw1, hP, hPl, hb1, hbox⟩ := box_any w #[.int .i64 f, .int .u32 m, .slice A l.length cA] 26
  obtain ⟨n, hn⟩ : ∃ n, l.length = n := ⟨_, rfl⟩
  rw [hn] at HL hlc hl hw1 hbox ⊢
  have HN := Lib.hid hn
  have HB1 := Lib.hid hb1
  have HBOX := Lib.hid hbox
  obtain ⟨r0, r1, r2⟩ := three_heads hbox
  have hb1s := Lib.hid hb1.size
  clear h hn hb1 hbox
  unfold planA
  obtain ⟨wz, R2, hwz, hNz, hNl, hbz, hzb⟩ := box_any w1 (arrU fun _ => 0) 146
  have HAZ := Lib.hid (show ArrU wz R2 (winF m []) from by show _ = some (Obj.cells (arrU (winF m [])) _ _); rw [winF_nil]; exact hzb)
  have HNP := Lib.hid (show P < R2 by omega)
  have HNW := Lib.hid (show w.heap.size ≤ R2 by have := hb1s.out; omega)
  have HPZ := Lib.hid (Nat.lt_of_lt_of_le hPl hbz.size)
  have HBX0 := Lib.hid (keep_block HBOX.out hbz)
  have HBZ := Lib.hid (HB1.out.trans (hbz.mono HB1.out.size))
  obtain ⟨p0, p1, p2⟩ := three_heads HBX0.out
  rw [arrU_zero] at hwz
  clear hbz hzb
  go_enter Tryz.func101, Tryz.ntmps101
  go_wp2_with fail
  clear hw1 hP r0 r1 r2 hwz hNz p0 p1 p2
  go_loopg [3, 5, 7, 11] n (fun gg s3 _ _ s11 wr => ∃ (k : Nat) (ap : Bool), k ≤ n ∧ gg = n - k ∧ s11 = .int .i64 k ∧ s3 = .bool ap ∧ Hid (ap = true ↔ ApartP m (pcsOf (l.take k))) ∧ Apart (fun b => b = R2) wz wr ∧ ArrU wr R2 (winF m (pcsOf (l.take k))))
  case atStart => exact ⟨0, true, Nat.zero_le _, by omega, rfl, rfl, ⟨fun _ i _ _ t _ => Nat.zero_le _, fun _ => rfl⟩, Apart.refl _ _, HAZ.out⟩
  case round =>
    obtain ⟨k, ap, hk, hg, rfl, rfl, HAP, hat, harr⟩ := hrel
    have HG := Lib.hid hg
    have HAT := Lib.hid hat
    have HARR := Lib.hid harr
    have HB := Lib.hid (HBZ.out.trans (hat.below HBZ.out.size fun b hb e => by have := HNW.out; omega))
    have HBX := Lib.hid ((hat.block P HPZ.out (by have := HNP.out; omega)).trans HBX0.out)
    have hPl2 : P < wr.heap.size := heap_lt HBX.out
    obtain ⟨r0, r1, r2⟩ := three_heads HBX.out
    clear hg hat harr
    by_cases hlt : k < n
    · have hk0 : (0 : Int) ≤ (k : Int) := by omega
      have hltz : (k : Int) < (n : Int) := by omega
      obtain ⟨x, hx⟩ := exP_at (xs := l) (k := k) (by rw [HN.out]; exact hlt)
      obtain ⟨b, off, B, d, hA, hbl, _, hpl, hps⟩ := HL.out.at_ hx
      obtain ⟨c0, c1, c2, c3⟩ := hpl.keep (HB.out.block b hbl)
      subst hA
      simp only at c0 c1 c2 c3
      have HX := Lib.hid hx
      have HPS := Lib.hid hps
      clear hx hps hpl
      obtain ⟨w2, N, hw2, hN, hNl, hb2, hxbox⟩ := box_any wr #[.int .i64 x.u, .int .i64 x.s, .int .i64 x.c, .slice B x.ps.length d] 48
      have HB2 := Lib.hid hb2
      have HXB := Lib.hid hxbox
      obtain ⟨x0, x1, x2, x3⟩ := four_heads hxbox
      obtain ⟨p0, p1, p2⟩ := three_heads (keep_block HBX.out hb2)
      clear hb2 hxbox
      have HPT := Lib.hid (pcs_take HX.out)
      have hxo := HO.out x (List.mem_of_getElem? HX.out)
      have HYO := Lib.hid hxo.1.2.2.2
      obtain ⟨xu, xs, xc, ps⟩ := x
      simp only at *
      generalize hq : pcsOf (l.take k) = q at *
      clear hq
      obtain ⟨np, hnp⟩ : ∃ np, ps.length = np := ⟨_, rfl⟩
      rw [hnp] at HPS hw2 HXB c3 x3
      have hnpl : np ≤ 1000 := by rw [← hnp]; exact hxo.2
      have HNP2 := Lib.hid hnp
      have HAT2 := Lib.hid (HAT.out.trans (Apart.of_below (F := fun b => b = R2) HB2.out) fun _ _ e => e)
      have HARR2 : Hid (ArrU w2 R2 (winF m q)) := keep_block HARR.out HB2.out
      obtain ⟨wo, rfl⟩ : ∃ wo : World, wo = wr := ⟨_, rfl⟩
      clear hnp hxo r0 r1 r2
      go_wp2_with fail
      clear hw2 hN x0 x1 x2 x3 p0 p1 p2 c0 c1 c2 c3
      go_loopg [3, 7, 18] np (fun gg s3 _ s18 wr => ∃ (j : Nat) (ap : Bool), j ≤ np ∧ gg = np - j ∧ s18 = .int .i64 j ∧ s3 = .bool ap ∧ Hid (ap = true ↔ ApartP m (q ++ ps.take j)) ∧ Apart (fun b => b = R2) wz wr ∧ ArrU wr R2 (winF m (q ++ ps.take j)))
      case atStart => exact ⟨0, ap, Nat.zero_le _, by omega, rfl, rfl, by rw [List.take_zero, List.append_nil]; exact HAP, HAT2.out, by rw [List.take_zero, List.append_nil]; exact HARR2.out⟩
      case round =>
        obtain ⟨j, aj, hj, hgj, rfl, rfl, HAPJ, hatj, harrj⟩ := hrel
        have HGJ := Lib.hid hgj
        have HATJ := Lib.hid hatj
        have HARJ := Lib.hid harrj
        have HBJ := Lib.hid (HBZ.out.trans (hatj.below HBZ.out.size fun b hb e => by have := HNW.out; omega))
        have HBXJ := Lib.hid ((hatj.block P HPZ.out (by have := HNP.out; omega)).trans HBX0.out)
        have hPj : P < wr.heap.size := heap_lt HBXJ.out
        obtain ⟨r0, r1, r2⟩ := three_heads HBXJ.out
        clear hgj hatj harrj
        by_cases hlj : j < np
        · have hltj : (j : Int) < (np : Int) := by omega
          have hj0 : (0 : Int) ≤ (j : Int) := by omega
          obtain ⟨y, hy⟩ := exP_at (xs := ps) (k := j) (by rw [HNP2.out]; exact hlj)
          obtain ⟨b2, o2, hA2, hbl2, _, y0, y1⟩ := (HPS.out.keep HBJ.out).at_ hy
          subst hA2
          have HTJ := Lib.hid (take_pcs hy)
          have hyt := (HYO.out y (List.mem_of_getElem? hy)).2
          obtain ⟨yc, yt⟩ := y
          simp only at y0 y1 hyt
          obtain ⟨w3, M3, hw3, hM3, hM3l, hb3, hyb⟩ := box_any wr #[.int .i64 yc, .int .u64 yt] 84
          obtain ⟨z0, z1⟩ := two_heads hyb
          obtain ⟨p0, p1, p2⟩ := three_heads (keep_block HBXJ.out hb3)
          have HB3 := Lib.hid hb3
          have HYB := Lib.hid hyb
          have HCC := Lib.hid (HHC.out (.slice (some ⟨b, off, none⟩) n cA) yc)
          have HYT := Lib.hid hyt
          clear hy hb3 hyb hyt
          cases hh : hasC m yc with
          | false =>
            rw [hh] at HCC
            have HW := Lib.hid (winF_skip (q := q ++ ps.take j) (y := ⟨yc, yt⟩) hh)
            have HA := Lib.hid (apart_skip (q := q ++ ps.take j) (y := ⟨yc, yt⟩) hh)
            clear hh
            go_wp2_with fail
            refine (HCC.out _).mono ?_
            rintro e w4 ⟨rfl, hb4⟩
            have HB4 := Lib.hid (HB3.out.trans (hb4.mono HB3.out.size))
            clear hb4
            go_wp2_with fail
            go_roundg (np - (j + 1))
            case measure => have := HGJ.out; omega
            case rel =>
              refine ⟨j + 1, aj, by omega, rfl, by go_num, rfl, ?_, HATJ.out.trans (Apart.of_below (F := fun b => b = R2) HB4.out) (fun _ _ e => e), ?_⟩
              · show _ ↔ _
                rw [HTJ.out, ← List.append_assoc, HA.out]
                exact HAPJ
              · show _ = some (Obj.cells (arrU _) _ _)
                rw [HTJ.out, ← List.append_assoc, HW.out]
                exact keep_block HARJ.out HB4.out
          | true =>
            rw [hh] at HCC
            obtain ⟨C, rfl⟩ : ∃ C : Nat, yc = (C : Int) := ⟨yc.toNat, by have := hasC_range hh; omega⟩
            have hC : C < 16 := by have := hasC_range hh; omega
            have hCz : (C : Int) < 16 := by omega
            have hC0 : (0 : Int) ≤ (C : Int) := by omega
            have hb : m.testBit C = true := by rw [← hasC_nat hC]; exact hh
            have HW := Lib.hid (winF_hit (q := q ++ ps.take j) (m := m) hb HYT.out)
            have HA := Lib.hid (apart_hit (q := q ++ ps.take j) hC hb HYT.out)
            have HML := Lib.hid (show winF m (q ++ ps.take j) C < 18446744073709551616 by unfold winF; rw [if_pos hb]; exact winN_lt _ _)
            have HQ := Lib.hid HARJ.out
            generalize hM : winF m (q ++ ps.take j) C = M at *
            have HM := Lib.hid hM
            clear hh hb hM
            go_wp2_with fail
            refine (HCC.out _).mono ?_
            rintro e w4 ⟨rfl, hb4⟩
            have HB4 := Lib.hid (HB3.out.trans (hb4.mono HB3.out.size))
            have HAR4 : Hid (ArrU w4 R2 (winF m (q ++ ps.take j))) := keep_block HARJ.out HB4.out
            have HYB4 := Lib.hid (keep_block HYB.out hb4)
            have HAT4 := Lib.hid (HATJ.out.trans (Apart.of_below (F := fun b => b = R2) HB4.out) fun _ _ e => e)
            have a1 : w4.cell? ⟨R2, C, none⟩ = some (.int .u64 M) := by rw [← HM.out]; exact HAR4.out.cell hC
            have a2 := HAR4.out.frozen C
            obtain ⟨z0, z1⟩ := two_heads HYB4.out
            have e1 := andU M yt HML.out HYT.out
            have e2 : bits .or .u64 (M : Int) (yt : Int) = ((M ||| yt : Nat) : Int) := bits_or_u64_nat _ _ HML.out HYT.out
            obtain ⟨O, hO⟩ : ∃ O, M ||| yt = O := ⟨_, rfl⟩
            obtain ⟨Z, hZ⟩ : ∃ Z, M &&& yt = Z := ⟨_, rfl⟩
            rw [hO] at e2
            rw [hZ] at e1
            have HZ := Lib.hid hZ
            have HOO := Lib.hid hO
            have HFIN : Hid (∀ (nq : Nat) (a' : Bool), (a' = true ↔ (aj = true ∧ Z = 0)) → (∃ (j' : Nat) (ap : Bool), j' ≤ np ∧ np - (j + 1) = np - j' ∧ Value.int .i64 ((j : Int) + 1) = .int .i64 j' ∧ Value.bool a' = .bool ap ∧ Hid (ap = true ↔ ApartP m (q ++ ps.take j')) ∧ Apart (fun b => b = R2) wz (((w4.drewN nq).setCell ⟨R2, C, none⟩ (.int .u64 O)).drew) ∧ ArrU (((w4.drewN nq).setCell ⟨R2, C, none⟩ (.int .u64 O)).drew) R2 (winF m (q ++ ps.take j')))) := fun nq a' ha => by
              refine ⟨j + 1, a', by omega, rfl, by go_num, rfl, ?_, ?_, ?_⟩
              · show _ ↔ _
                rw [HTJ.out, ← List.append_assoc, HA.out, ha, HAPJ.out, HZ.out]
              · exact ((HAT4.out.drewN nq).set (p := ⟨R2, C, none⟩) (.inl rfl) _).drewN 1
              · have h1 : ArrU (w4.drewN nq) R2 (winF m (q ++ ps.take j)) := HAR4.out
                have h2 := ArrU.set h1 C O
                show _ = some (Obj.cells (arrU _) _ _)
                rw [HTJ.out, ← List.append_assoc, ← HW.out, HOO.out]
                exact h2
            clear hb4 hO hZ p0 p1 p2 y0 y1 r0 r1 r2 hw3
            cases aj with
            | false =>
              go_wp2_with fail
              go_quiet (fail)
              go_wp2_with fail
              go_region
              go_wp2_with fail
              go_roundg (np - (j + 1))
              case measure => have := HGJ.out; omega
              case rel => exact HFIN.out nq false ⟨(fun h => by cases h), (fun h => by cases h.1)⟩
            | true =>
              by_cases hz : Z = 0
              · have hzt : ((Z : Int) == 0) = true := by subst hz; rfl
                have HZZ := Lib.hid hz
                clear hz
                go_wp2_with fail
                go_quiet (fail)
                go_wp2_with fail
                go_region
                go_wp2_with fail
                go_roundg (np - (j + 1))
                case measure => have := HGJ.out; omega
                case rel => exact HFIN.out nq true (by simp [HZZ.out])
              · have hzt : ((Z : Int) == 0) = false := by simpa using hz
                have HZZ := Lib.hid hz
                clear hz
                go_wp2_with fail
                go_quiet (fail)
                go_wp2_with fail
                go_region
                go_wp2_with fail
                go_roundg (np - (j + 1))
                case measure => have := HGJ.out; omega
                case rel => exact HFIN.out nq false ⟨(fun h => by cases h), fun h => absurd h.2 HZZ.out⟩
        · have hltj : ¬ (j : Int) < (np : Int) := by omega
          have HE := Lib.hid (show q ++ ps.take j = pcsOf (l.take (k + 1)) by rw [HPT.out, List.take_of_length_le (by rw [HNP2.out]; omega)])
          go_wp2_with fail
          go_roundg (n - (k + 1))
          case measure => have := HG.out; omega
          case rel => exact ⟨k + 1, aj, by omega, rfl, by go_num, rfl, by rw [← HE.out]; exact HAPJ, HATJ.out, by rw [← HE.out]; exact HARJ.out⟩
    · have hltz : ¬ (k : Int) < (n : Int) := by omega
      have HE := Lib.hid (show pcsOf (l.take k) = pcsOf l by rw [List.take_of_length_le (by rw [HN.out]; omega)])
      generalize hq : pcsOf (l.take k) = q at *
      clear hq
      go_wp2_with (first
        | (refine wpList_load_row rfl _ _ rfl R2 rfl 146 (arrU (winF m q)) (0, 0) _ HARR.out Tryz.underlying146 rfl (Tryz.sizeAU _) ?_)
        | (refine wpList_store_row rfl _ _ _ rfl R2 (arrU (winF m q)) rfl rfl 146 (arrU (winF m q)) HARR.out (Tryz.sizeAU _) rfl (arrU_one _) ?_))
      refine bodyPost_ret (v := .tuple #[.agg (arrU (winF m q)), .bool ap]) (results_row_tmp rfl _ _ R2 _ _ _ _ rfl (setRow_heap _ _ _ _ _ _ HARR.out) Tryz.underlying146 rfl (Tryz.sizeAU _) _ rfl) rfl ?_
      refine ⟨ap, by rw [HE.out], by rw [← HE.out]; exact HAP, HB.out.trans ?_⟩
      have hs := HB.out.size
      exact ⟨rfl, rfl, rfl, by simp, fun k hk => setRow_other _ _ _ _ (by have := HNW.out; omega)⟩
end Go.Proofs.YtpfpojehcjmfnaaGreat

/-
  rooms, Windows, Room and Free of the program.
  Conditions: the slice reads as places; the numbers are small.
-/
set_option linter.unusedVariables false
namespace Go.Proofs.YtpfpojehcjmfnaaGreat
open Go.RowKit Go.Sort

/-- The rooms by the windows alone, the first k of them. -/
def leftA (f : Int) (m : Nat) (q : List Pc) (k i : Nat) : Int := if i < k ∧ m.testBit i = true then f - (cnt (winF m q i) : Int) else 0
/-- The rooms with the first whole ones. -/
def leftB (f : Int) (m : Nat) (q : List Pc) (l : List Pl) (i : Nat) : Int := if m.testBit i = true then f - (cnt (winF m q i) : Int) - sumS (wholesT l (i : Int)) else 0
theorem leftA_zero (f : Int) (m : Nat) (q : List Pc) : arrI (leftA f m q 0) = arrI fun _ => 0 := arrI_congr fun i _ => if_neg (by omega)
theorem leftA_yes {f : Int} {m : Nat} {q : List Pc} {k : Nat} (h : m.testBit k = true) : (arrI fun i => if i = k then f - (cnt (winF m q k) : Int) else leftA f m q k i) = arrI (leftA f m q (k + 1)) := arrI_congr fun i _ => by
  unfold leftA
  by_cases e : i = k
  · subst e
    rw [if_pos rfl, if_pos ⟨by omega, h⟩]
  · rw [if_neg e]
    by_cases h1 : i < k ∧ m.testBit i = true
    · rw [if_pos h1, if_pos ⟨by omega, h1.2⟩]
    · rw [if_neg h1, if_neg (fun h2 => h1 ⟨by omega, h2.2⟩)]
theorem leftA_no {f : Int} {m : Nat} {q : List Pc} {k : Nat} (h : m.testBit k = false) : arrI (leftA f m q k) = arrI (leftA f m q (k + 1)) := arrI_congr fun i _ => by
  unfold leftA
  by_cases h1 : i < k ∧ m.testBit i = true
  · rw [if_pos h1, if_pos ⟨by omega, h1.2⟩]
  · rw [if_neg h1, if_neg (fun h2 => h1 ⟨by
      have : i ≠ k := by rintro rfl; rw [h] at h2; cases h2.2
      omega, h2.2⟩)]
theorem leftB_zero (f : Int) (m : Nat) (q : List Pc) : arrI (leftA f m q 16) = arrI (leftB f m q []) := arrI_congr fun i hi => by
  unfold leftA leftB
  by_cases h : m.testBit i = true
  · rw [if_pos ⟨hi, h⟩, if_pos h]
    show _ = _ - 0
    omega
  · rw [if_neg (fun h2 => h h2.2), if_neg h]
theorem leftB_no {f : Int} {m : Nat} {q : List Pc} {l : List Pl} {k : Nat} {x : Pl} (hx : l[k]? = some x) (h : ∀ i : Nat, i < 16 → m.testBit i = true → wholeB (i : Int) x = false) : arrI (leftB f m q (l.take k)) = arrI (leftB f m q (l.take (k + 1))) := arrI_congr fun i hi => by
  unfold leftB
  split
  · rename_i hb
    rw [wholes_no hx (h i hi hb)]
  · rfl
theorem leftB_yes {f : Int} {m : Nat} {q : List Pc} {l : List Pl} {k C : Nat} {x : Pl} (hx : l[k]? = some x) (hC : x.c = (C : Int)) (hz : x.ps.length = 0) (hb : m.testBit C = true) :
    (arrI fun i => if i = C then leftB f m q (l.take k) C - x.s else leftB f m q (l.take k) i) = arrI (leftB f m q (l.take (k + 1))) := arrI_congr fun i hi => by
  unfold leftB
  by_cases e : i = C
  · subst e
    rw [if_pos rfl, if_pos hb, if_pos hb, wholes_yes hx (by unfold wholeB; rw [decide_eq_true hz, decide_eq_true hC]; rfl), sumS_append]
    simp only [sumS]
    omega
  · rw [if_neg e]
    split
    · rw [wholes_no hx (by unfold wholeB; rw [decide_eq_false (show ¬ x.c = (i : Int) by omega), Bool.and_false])]
    · rfl
theorem leftB_room (f : Int) (m : Nat) (l : List Pl) : arrI (leftB f m (pcsOf l) l) = arrI fun i => roomN f m l (i : Int) := arrI_congr fun i hi => by
  unfold leftB roomN loadN
  rw [hasC_nat hi]
  by_cases h : m.testBit i = true
  · rw [if_pos h, if_pos h]
    unfold winF
    rw [if_pos h]
    omega
  · rw [if_neg h, if_neg h]
theorem leftB_bound {f : Int} {m : Nat} {q : List Pc} {l : List Pl} (hL : LightL l) (hS : Shares l) (hf : 0 ≤ f) (hf2 : f ≤ 64) (i : Nat) : -20000 ≤ leftB f m q l i ∧ leftB f m q l i ≤ 64 := by
  have h1 := sumS_bound (wholesT l (i : Int)) (shares_wholes hS i)
  have h2 := wholes_le l (i : Int)
  have h3 := cnt_le (winF m q i)
  have h4 := hL.len
  unfold leftB
  split <;> omega
theorem Shares.take {l : List Pl} (h : Shares l) (k : Nat) : Shares (l.take k) := fun x hx => h x (List.mem_of_mem_take hx)

set_option maxRecDepth 100000 in
set_option maxHeartbeats 4000000 in
theorem rooms_any (f : Int) (m : Nat) (v : Value) (l : List Pl) (w : World) (h : PlsAt w v l) (hL : LightL l) (hS : Shares l) (hm : m < 4294967296) (hf : 0 ≤ f) (hf2 : f ≤ 64) :
    Calls Tryz.prog 54 #[planA f m v] w (RetB (.agg (arrI fun i => roomN f m l (i : Int))) w) := by
  have hl : l.length ≤ 1000 := by have := hL.len; omega
  have HWN := Lib.hid (fun v w h => windows_any f m v l w h hl hL.ok hm)
  have HHC := Lib.hid (fun v c W => hasCore_any f m v c W hm)
  have HIW := Lib.hid (fun A n d x w => isWhole_any Any A n d x w)
  have HBD := Lib.hid (fun k i => leftB_bound (f := f) (m := m) (q := pcsOf l) (hL.take k) (hS.take k) hf hf2 i)
  have HRM := Lib.hid (leftB_room f m l)
  have HSH := Lib.hid hS
  unfold planA at HWN HHC
  unfold plA at HIW
  clear hL hS hm
  obtain ⟨A, cA, rfl, hlc, hcm⟩ := h.form
  have HL := Lib.hid h
  obtain ⟨w1, P, hw1, hP, hPl, hb1, hbox⟩ := box_any w #[.int .i64 f, .int .u32 m, .slice A l.length cA] 26
  obtain ⟨n, hn⟩ : ∃ n, l.length = n := ⟨_, rfl⟩
  rw [hn] at HL hlc hl hw1 hbox ⊢
  have HN := Lib.hid hn
  have HB1 := Lib.hid hb1
  have HBOX := Lib.hid hbox
  obtain ⟨r0, r1, r2⟩ := three_heads hbox
  have hb1s := Lib.hid hb1.size
  clear h hn hb1 hbox
  unfold planA
  obtain ⟨wa, R2, hwa, hNa, hNal, hba, haa⟩ := box_any w1 (arrI fun _ => 0) 93
  obtain ⟨wb, R3, hwb, hNb, hNbl, hbb, hab⟩ := box_any wa (arrI fun _ => 0) 93
  rw [arrI_zero] at hwa hwb
  have HBB := Lib.hid (HB1.out.trans ((hba.mono HB1.out.size).trans (hbb.mono (Nat.le_trans HB1.out.size hba.size))))
  have HXB := Lib.hid (keep_block (keep_block HBOX.out hba) hbb)
  have HAA := Lib.hid (keep_block haa hbb)
  have HAB := Lib.hid hab
  obtain ⟨p0, p1, p2⟩ := three_heads HXB.out
  have HO1 := Lib.hid (show w.heap.size ≤ P ∧ P < R2 ∧ R2 < R3 by omega)
  clear hba haa hbb hab
  go_enter Tryz.func54, Tryz.ntmps54
  go_wp2_with fail
  refine (HWN.out _ _ (HL.out.keep HBB.out)).mono ?_
  rintro e wc ⟨ap, rfl, _, hbc⟩
  obtain ⟨wd, R4, hwd, hNd, hNdl, hbd, had⟩ := box_any wc (arrU fun _ => 0) 146
  rw [arrU_zero] at hwd
  have HAD := Lib.hid had
  have HBD2 := Lib.hid (hbc.trans (hbd.mono hbc.size))
  have hR4 := Lib.hid (show wb.heap.size ≤ R4 by have := hbc.size; omega)
  have HO2 := Lib.hid (show R3 < R4 by have := heap_lt HAB.out; have := hbc.size; omega)
  generalize hq : pcsOf l = q at *
  clear hbc hbd had p0 p1 p2 r0 r1 r2 hw1 hP hwa hNa hwb hNb hq
  go_wp2_with (refine wpList_store_row rfl _ _ _ rfl R4 (arrU (winF m q)) rfl rfl 146 (arrU fun _ => 0) HAD.out (Tryz.sizeAU _) (by rw [arrU_size, arrU_size]) (arrU_one _) ?_)
  obtain ⟨w4, hw4⟩ : ∃ w4, wd.setRow R4 (arrU (winF m q)) = w4 := ⟨_, rfl⟩
  rw [hw4]
  have HB4 : Hid (Below wb.heap.size wb w4) := by rw [← hw4]; exact below_row HBD2.out hR4.out _
  have HAD4 : Hid (ArrU w4 R4 (winF m q)) := by rw [← hw4]; exact setRow_heap _ _ _ _ _ _ HAD.out
  have HX4 := Lib.hid (keep_block HXB.out HB4.out)
  have HA4 : Hid (ArrI w4 R2 fun _ => 0) := keep_block HAA.out HB4.out
  have HL4 : Hid (ArrI w4 R3 (leftA f m q 0)) := by
    show _ = some (Obj.cells (arrI (leftA f m q 0)) _ _)
    rw [leftA_zero]
    exact keep_block HAB.out HB4.out
  have HBW4 := Lib.hid (HBB.out.trans (HB4.out.mono HBB.out.size))
  have hne1 : P ≠ R3 := by have := HO1.out; omega
  have hne2 : R4 ≠ R3 := by have := HO2.out; omega
  have hne3 : R3 ≠ P := Ne.symm hne1
  have hne4 : R3 ≠ R4 := Ne.symm hne2
  clear hw4 hwd hNd
  go_loopg [6, 14] 16 (fun gg _ s14 wr => ∃ k : Nat, k ≤ 16 ∧ gg = 16 - k ∧ s14 = .int .i64 k ∧ Apart (fun b => b = R3) w4 wr ∧ ArrI wr R3 (leftA f m q k))
  case atStart => exact ⟨0, Nat.zero_le _, rfl, rfl, Apart.refl _ _, HL4.out⟩
  case round =>
    obtain ⟨k, hk, hg, rfl, hat, harr⟩ := hrel
    have HG := Lib.hid hg
    have HAT := Lib.hid hat
    have HAR := Lib.hid harr
    have HXR := Lib.hid ((hat.block P (heap_lt HX4.out) hne1).trans HX4.out)
    have HDR : Hid (ArrU wr R4 (winF m q)) := (hat.block R4 (heap_lt HAD4.out) hne2).trans HAD4.out
    have HBR := Lib.hid (HBW4.out.trans (hat.below HBW4.out.size fun b hb e => by have := HO1.out; omega))
    obtain ⟨r0, r1, r2⟩ := three_heads HXR.out
    clear hg hat harr
    by_cases hlt : k < 16
    · have hltz : (k : Int) < 16 := by omega
      have hk0 : (0 : Int) ≤ (k : Int) := by omega
      have HCC := Lib.hid (fun w => HHC.out (.slice A n cA) (k : Int) w)
      rw [hasC_nat hlt] at HCC
      cases hb : m.testBit k with
      | false =>
        rw [hb] at HCC
        have HE := Lib.hid (leftA_no (f := f) (q := q) hb)
        clear hb
        go_wp2_with fail
        refine (HCC.out _).mono ?_
        rintro e w5 ⟨rfl, hb5⟩
        have HAT5 := Lib.hid (HAT.out.trans (Apart.of_below (F := fun b => b = R3) hb5) fun _ _ e => e)
        have HAR5 : Hid (ArrI w5 R3 (leftA f m q (k + 1))) := by
          show _ = some (Obj.cells (arrI (leftA f m q (k + 1))) _ _)
          rw [← HE.out]
          exact keep_block HAR.out hb5
        clear hb5
        go_wp2_with fail
        go_roundg (16 - (k + 1))
        case measure => have := HG.out; omega
        case rel => exact ⟨k + 1, by omega, rfl, by go_num, HAT5.out, HAR5.out⟩
      | true =>
        rw [hb] at HCC
        have HE := Lib.hid (leftA_yes (f := f) (q := q) hb)
        have HML := Lib.hid (show winF m q k < 18446744073709551616 by unfold winF; rw [if_pos hb]; exact winN_lt _ _)
        have hc64 := cnt_le (winF m q k)
        have HCN := Lib.hid (fun W => count_any (winF m q k) W HML.out)
        obtain ⟨c, hc⟩ : ∃ c, cnt (winF m q k) = c := ⟨_, rfl⟩
        rw [hc] at HE hc64 HCN
        have HDC := Lib.hid (HDR.out.cell hlt)
        obtain ⟨M, hM⟩ : ∃ M, winF m q k = M := ⟨_, rfl⟩
        rw [hM] at HML HCN HDC
        have hw64 : IntKind.i64.wrap (f - (c : Int)) = f - (c : Int) := IntWalk.i64_in _ (by omega)
        clear hb hM hc
        go_wp2_with fail
        refine (HCC.out _).mono ?_
        rintro e w5 ⟨rfl, hb5⟩
        have HAT5 := Lib.hid (HAT.out.trans (Apart.of_below (F := fun b => b = R3) hb5) fun _ _ e => e)
        have HAR5 : Hid (ArrI w5 R3 (leftA f m q k)) := keep_block HAR.out hb5
        have HXR5 := Lib.hid (keep_block HXR.out hb5)
        obtain ⟨q0, q1, q2⟩ := three_heads HXR5.out
        have d0 : w5.cell? ⟨R4, k, none⟩ = some (.int .u64 M) := (hb5.cell (p := ⟨R4, k, none⟩) (heap_lt HDR.out)).trans HDC.out
        have t0 := HAR5.out.cell hlt
        have t1 := HAR5.out.frozen k
        clear hb5 r0 r1 r2
        go_wp2_with fail
        go_region_held3 (fun w' => w'.cell? ⟨P, 0, none⟩ = some (.int .i64 f) ∧ w'.cell? ⟨R4, k, none⟩ = some (.int .u64 M)) (go_keep) (first | (go_at_call 103; refine (HCN.out _).mono ?_; rintro e w' ⟨rfl, rfl⟩))
        all_goals
          go_wp2_with fail
          go_roundg (16 - (k + 1))
          case measure => have := HG.out; omega
          case rel =>
            refine ⟨k + 1, by omega, rfl, by go_num, (HAT5.out.set (p := ⟨R3, k, none⟩) (.inl rfl) _).drewN 1, ?_⟩
            have h1 := ArrI.set HAR5.out k (f - (c : Int))
            show _ = some (Obj.cells (arrI _) _ _)
            rw [← HE.out]
            exact h1
    · have hk16 : k = 16 := by omega
      subst hk16
      have HAR0 : Hid (ArrI wr R3 (leftB f m q (l.take 0))) := by
        show _ = some (Obj.cells (arrI _) _ _)
        rw [List.take_zero, ← leftB_zero]
        exact HAR.out
      obtain ⟨wo, rfl⟩ : ∃ wo : World, wo = wr := ⟨_, rfl⟩
      go_wp2_with fail
      go_loopg [8, 33] n (fun gg _ s33 wr => ∃ k : Nat, k ≤ n ∧ gg = n - k ∧ s33 = .int .i64 k ∧ Apart (fun b => b = R3) w4 wr ∧ ArrI wr R3 (leftB f m q (l.take k)))
      case atStart => exact ⟨0, Nat.zero_le _, by omega, rfl, HAT.out, HAR0.out⟩
      case round =>
        obtain ⟨k, hk, hg, rfl, hat, harr⟩ := hrel
        have HG := Lib.hid hg
        have HATK := Lib.hid hat
        have HARK := Lib.hid harr
        have HXR := Lib.hid ((hat.block P (heap_lt HX4.out) hne1).trans HX4.out)
        have HA2 : Hid (ArrI wr R2 fun _ => 0) := (hat.block R2 (heap_lt HA4.out) (by have := HO1.out; omega)).trans HA4.out
        have HB := Lib.hid (HBW4.out.trans (hat.below HBW4.out.size fun b hb e => by have := HO1.out; omega))
        have HBX := HXR
        obtain ⟨r0, r1, r2⟩ := three_heads HXR.out
        clear hg hat harr
        by_cases hlt : k < n
        · have hk0 : (0 : Int) ≤ (k : Int) := by omega
          have hltz : (k : Int) < (n : Int) := by omega
          obtain ⟨x, hx⟩ := exP_at (xs := l) (k := k) (by rw [HN.out]; exact hlt)
          obtain ⟨b, off, B, d, hA, hbl, _, hpl, hps⟩ := HL.out.at_ hx
          obtain ⟨c0, c1, c2, c3⟩ := hpl.keep (HB.out.block b hbl)
          subst hA
          simp only at c0 c1 c2 c3
          have HX := Lib.hid hx
          have HPS := Lib.hid hps
          clear hx hps hpl
          obtain ⟨w2, N, hw2, hN, hNl, hb2, hxbox⟩ := box_any wr #[.int .i64 x.u, .int .i64 x.s, .int .i64 x.c, .slice B x.ps.length d] 48
          have HB2 := Lib.hid hb2
          have HXB := Lib.hid hxbox
          obtain ⟨x0, x1, x2, x3⟩ := four_heads hxbox
          obtain ⟨p0, p1, p2⟩ := three_heads (keep_block HBX.out hb2)
          clear hb2 hxbox
          have HIC := Lib.hid (fun w => HIW.out B x.ps.length d x w)
          have hxs := HSH.out x (List.mem_of_getElem? HX.out)
          have HAT2 := Lib.hid (HATK.out.trans (Apart.of_below (F := fun b => b = R3) HB2.out) fun _ _ e => e)
          have HAR2 : Hid (ArrI w2 R3 (leftB f m q (l.take k))) := keep_block HARK.out HB2.out
          have HXR2 := Lib.hid (keep_block HXR.out HB2.out)
          cases hz : decide (x.ps.length = 0) with
          | false =>
            rw [hz] at HIC
            have HE := Lib.hid (leftB_no (f := f) (m := m) (q := q) HX.out (fun i _ _ => by unfold wholeB; rw [hz]; rfl))
            clear hz
            go_wp2_with fail
            refine (HIC.out _).mono ?_
            rintro e w5 ⟨rfl, hb5⟩
            have HAT5 := Lib.hid (HAT2.out.trans (Apart.of_below (F := fun b => b = R3) hb5) fun _ _ e => e)
            have HAR5 : Hid (ArrI w5 R3 (leftB f m q (l.take (k + 1)))) := by
              show _ = some (Obj.cells (arrI _) _ _)
              rw [← HE.out]
              exact keep_block HAR2.out hb5
            clear hb5
            go_wp2_with fail
            go_roundg (n - (k + 1))
            case measure => have := HG.out; omega
            case rel => exact ⟨k + 1, by omega, rfl, by go_num, HAT5.out, HAR5.out⟩
          | true =>
            rw [hz] at HIC
            have hz0 := of_decide_eq_true hz
            have HCC := Lib.hid (fun w => HHC.out (.slice (some ⟨b, off, none⟩) n cA) x.c w)
            cases hh : hasC m x.c with
            | false =>
              rw [hh] at HCC
              have HE := Lib.hid (leftB_no (f := f) (m := m) (q := q) HX.out (fun i hi hbi => by
                have h0 : decide (x.c = (i : Int)) = false := decide_eq_false (fun e => by rw [e, hasC_nat hi, hbi] at hh; cases hh)
                unfold wholeB
                rw [h0, Bool.and_false]))
              clear hz hz0 hh
              go_wp2_with fail
              refine (HIC.out _).mono ?_
              rintro e w5 ⟨rfl, hb5⟩
              have HAT5 := Lib.hid (HAT2.out.trans (Apart.of_below (F := fun b => b = R3) hb5) fun _ _ e => e)
              have HAR5 : Hid (ArrI w5 R3 (leftB f m q (l.take k))) := keep_block HAR2.out hb5
              obtain ⟨q0, q1, q2⟩ := three_heads (keep_block HXR2.out hb5)
              obtain ⟨y0, y1, y2, y3⟩ := four_heads (keep_block HXB.out hb5)
              clear hb5 x0 x1 x2 x3 p0 p1 p2 r0 r1 r2 c0 c1 c2 c3 hw2 hN
              go_wp2_with fail
              refine (HCC.out _).mono ?_
              rintro e w6 ⟨rfl, hb6⟩
              have HAT6 := Lib.hid (HAT5.out.trans (Apart.of_below (F := fun b => b = R3) hb6) fun _ _ e => e)
              have HAR6 : Hid (ArrI w6 R3 (leftB f m q (l.take (k + 1)))) := by
                show _ = some (Obj.cells (arrI _) _ _)
                rw [← HE.out]
                exact keep_block HAR5.out hb6
              clear hb6
              go_wp2_with fail
              go_roundg (n - (k + 1))
              case measure => have := HG.out; omega
              case rel => exact ⟨k + 1, by omega, rfl, by go_num, HAT6.out, HAR6.out⟩
            | true =>
              rw [hh] at HCC
              obtain ⟨xu, xs, xc, ps⟩ := x
              simp only at *
              obtain ⟨C, rfl⟩ : ∃ C : Nat, xc = (C : Int) := ⟨xc.toNat, by have := hasC_range hh; omega⟩
              have hC : C < 16 := by have := hasC_range hh; omega
              have hCz : (C : Int) < 16 := by omega
              have hC0 : (0 : Int) ≤ (C : Int) := by omega
              have HE := Lib.hid (leftB_yes (f := f) (q := q) HX.out rfl hz0 (show m.testBit C = true by rw [← hasC_nat hC]; exact hh))
              simp only at HE
              have hbd := HBD.out k C
              obtain ⟨D, hD⟩ : ∃ D, leftB f m q (l.take k) C = D := ⟨_, rfl⟩
              rw [hD] at HE hbd
              have HD := Lib.hid hD
              obtain ⟨hd1, hd2⟩ := hbd
              obtain ⟨hs1, hs2⟩ := hxs
              clear hz hz0 hh hD
              go_wp2_with fail
              refine (HIC.out _).mono ?_
              rintro e w5 ⟨rfl, hb5⟩
              have HAT5 := Lib.hid (HAT2.out.trans (Apart.of_below (F := fun b => b = R3) hb5) fun _ _ e => e)
              have HAR5 : Hid (ArrI w5 R3 (leftB f m q (l.take k))) := keep_block HAR2.out hb5
              have HXB5 := Lib.hid (keep_block HXB.out hb5)
              obtain ⟨q0, q1, q2⟩ := three_heads (keep_block HXR2.out hb5)
              obtain ⟨y0, y1, y2, y3⟩ := four_heads HXB5.out
              clear hb5 x0 x1 x2 x3 p0 p1 p2 r0 r1 r2 c0 c1 c2 c3 hw2 hN
              go_wp2_with fail
              refine (HCC.out _).mono ?_
              rintro e w6 ⟨rfl, hb6⟩
              have HAT6 := Lib.hid (HAT5.out.trans (Apart.of_below (F := fun b => b = R3) hb6) fun _ _ e => e)
              have HAR6 : Hid (ArrI w6 R3 (leftB f m q (l.take k))) := keep_block HAR5.out hb6
              obtain ⟨z0, z1, z2, z3⟩ := four_heads (keep_block HXB5.out hb6)
              have t0 : w6.cell? ⟨R3, C, none⟩ = some (.int .i64 D) := by rw [← HD.out]; exact HAR6.out.cell hC
              have t1 := HAR6.out.frozen C
              clear hb6 y0 y1 y2 y3 q0 q1 q2
              go_wp2_with fail
              go_region
              go_wp2_with fail
              go_roundg (n - (k + 1))
              case measure => have := HG.out; omega
              case rel =>
                refine ⟨k + 1, by omega, rfl, by go_num, (HAT6.out.set (p := ⟨R3, C, none⟩) (.inl rfl) _).drewN 1, ?_⟩
                have h1 := ArrI.set HAR6.out C (D - xs)
                show _ = some (Obj.cells (arrI _) _ _)
                rw [← HE.out]
                exact h1
        · have hltz : ¬ (k : Int) < (n : Int) := by omega
          have HE : Hid (ArrI wr R3 fun i => roomN f m l (i : Int)) := by
            have h := HARK.out
            rw [List.take_of_length_le (by rw [HN.out]; omega)] at h
            show _ = some (Obj.cells (arrI _) _ _)
            rw [← HRM.out]
            exact h
          go_wp2_with (first
            | (refine wpList_load_row rfl _ _ rfl R3 rfl 93 (arrI fun i => roomN f m l (i : Int)) (0, 0) _ HE.out Tryz.underlying93 rfl (Tryz.sizeAI _) ?_)
            | (refine wpList_store_row rfl _ _ _ rfl R2 (arrI fun i => roomN f m l (i : Int)) rfl rfl 93 (arrI fun _ => 0) HA2.out (Tryz.sizeAI _) (by rw [arrI_size, arrI_size]) (arrI_one _) ?_))
          refine bodyPost_ret (v := .agg (arrI fun i => roomN f m l (i : Int))) (results_cell_row rfl _ _ R2 _ _ _ _ rfl (setRow_heap _ _ _ _ _ _ HA2.out) Tryz.underlying93 rfl (Tryz.sizeAI _)) rfl ?_
          exact ⟨rfl, below_row HB.out (by have := HO1.out; omega) _⟩
end Go.Proofs.YtpfpojehcjmfnaaGreat
