/-
  The law TopSeats.
  Conditions: what the argument reads as.
-/
import Derived.Test.YtademjmnoncieaaSeatMath
import Derived.Test.YtademjmnoncieaaBegins
import Derived.Test.YtademjmnoncieaaAwake
import Derived.Deep.Cut
set_option linter.unusedVariables false
namespace Go.Proofs.Ytademjmnoncieaa
open Go.RowKit

set_option maxRecDepth 100000 in
set_option maxHeartbeats 4000000 in
theorem topSeats_bad (n : Nat) (ws : List Int) (v : Value) (W : World) (hn : n < 256) (hu : IntsAt W v ws) (h : ¬ Right ws) : Calls Try.prog 6 #[.int .u8 n, v] W (RetB6 (.bool true) W) := by
  have HS := Lib.hid (seats_bad n ws v W hu (fun hh => h hh.2.2))
  have HU := Lib.hid hu
  have HR := Lib.hid (rightB_false h)
  have hw : IntKind.i64.wrap (n : Int) = (n : Int) := IntWalk.i64_in _ (by omega)
  clear hu h
  go_enter Try.func6, Try.ntmps6
  go_wp2_with fail
  refine HS.out.mono ?_
  rintro e w1 ⟨v1, rfl, hat1, hb1⟩
  obtain ⟨A1, c1, rfl, _, _⟩ := hat1
  have h2 := right_any ws v w1 (HU.out.keep hb1)
  rw [HR.out] at h2
  have H2 := Lib.hid h2
  have B1 := Lib.hid hb1
  clear h2 hb1 HS
  go_wp2_with fail
  refine H2.out.mono ?_
  rintro e w ⟨rfl, rfl⟩
  go_wp2_with fail
  refine (begins_any w1).mono ?_
  rintro e w3 ⟨rfl, hb3⟩
  have B3 := Lib.hid (B1.out.trans (hb3.mono B1.out.size))
  clear hb3
  go_wp2_with fail
  go_ret
  exact ⟨rfl, B3.out⟩

def FillRel (ws : List Int) (B : Nat) (W0 : World) (hb kb : Nat) (g : Nat) (s9 : Value) (wr : World) : Prop :=
  ∃ (k : Nat) (lv : Value) (s : Hs), k ≤ ws.length ∧ g = ws.length - k ∧ s9 = .int .i64 k ∧ Held B W0 wr hb kb lv s ∧ KeyedBy ws (zeros ws.length) s k ∧ s.m ≤ k
def TakeRel (ws : List Int) (n B : Nat) (W0 : World) (hb kb gb : Nat) (g : Nat) (s61 : Value) (wr : World) : Prop :=
  ∃ (k : Nat) (lv : Value) (s : Hs), k ≤ n ∧ g = n - k ∧ s61 = .int .u8 k ∧ Held B W0 wr hb kb lv s ∧ KeyedBy ws (gr ws k) s ws.length ∧ s.m ≤ 64 + k ∧ RowAt wr gb (gr ws k) ∧ ¬ Foot hb kb lv gb

theorem getD_zeros (n i : Nat) : (zeros n).getD i 0 = 0 := by
  simp only [zeros, List.getD_eq_getElem?_getD, List.getElem?_replicate]
  split <;> rfl
theorem RowAt.apart {W W' : World} {g : Nat} {xs : List Int} {F : Nat → Prop} (h : RowAt W g xs) (ha : Apart F W W') (hn : ¬ F g) : RowAt W' g xs := (ha.block g h.lt hn).trans h

set_option maxRecDepth 100000 in
set_option maxHeartbeats 64000000 in
theorem topSeats_good (n : Nat) (ws : List Int) (v : Value) (W : World) (hn : n < 256) (hu : IntsAt W v ws) (h : Right ws) : Calls Try.prog 6 #[.int .u8 n, v] W (RetB6 (.bool true) W) := by
  have HS := Lib.hid (seats_ok n ws v W hu ⟨by omega, by omega, h⟩)
  have hl64 := h.1
  have HR := Lib.hid h
  have HU := Lib.hid hu
  obtain ⟨A, c, rfl, hlu, hat⟩ := hu
  have HAT := Lib.hid hat
  have hw : IntKind.i64.wrap (n : Int) = (n : Int) := IntWalk.i64_in _ (by omega)
  have hmk := fun w => mk_ints w ws.length (by omega)
  obtain ⟨len, hlen⟩ : ∃ l, ws.length = l := ⟨_, rfl⟩
  have HLEN := Lib.hid hlen
  rw [hlen] at hl64 hmk ⊢
  clear h hat hlu
  go_enter Try.func6, Try.ntmps6
  go_wp2_with fail
  rw [hlen] at HS
  refine HS.out.mono ?_
  rintro e w1 ⟨v1, rfl, hat1, hb1⟩
  have HAT1 := Lib.hid hat1
  obtain ⟨A1, c1, rfl, _, _⟩ := hat1
  have B1 := Lib.hid hb1
  have HU1 := Lib.hid (HU.out.keep hb1)
  have HNEW := Lib.hid (new_ok w1 64 (by decide) (by decide))
  clear hb1 HS HU
  go_wp2_with fail
  refine HNEW.out.mono ?_
  rintro e w2 hnew
  have K0 := Lib.hid (Held.new (W0 := w1) (Below.refl w1.heap.size w1) (Nat.le_refl _) hnew)
  obtain ⟨rfl, _, _⟩ := hnew
  obtain ⟨hb, hhb⟩ : ∃ hb, w1.heap.size + 1 = hb := ⟨_, rfl⟩
  obtain ⟨B, hB⟩ : ∃ B, w1.heap.size = B := ⟨_, rfl⟩
  rw [hhb] at K0 ⊢
  have K0 := Lib.hid (show Held B w1 w2 hb B (.slice none 0 0) (emptyS 64) by have := K0.out; rwa [hB] at this)
  have HBE := Lib.hid hB
  have HBW := Lib.hid (show W.heap.size ≤ B by rw [← hB]; exact B1.out.size)
  clear hhb hB HNEW hw
  go_wp2_with fail
  go_loopg [9] len (fun g s9 wr => FillRel ws B w1 hb B g s9 wr)
  case atStart =>
    exact ⟨0, _, _, Nat.zero_le _, by rw [HLEN.out]; rfl, rfl, K0.out, ⟨rfl, fun i hi => by rw [if_neg (by omega)]; rfl⟩, Nat.zero_le _⟩
  case round =>
    obtain ⟨k, lv, s, hk, hg, rfl, hheld, hkey, hm⟩ := hrel
    rw [HLEN.out] at hk hg
    have HG := Lib.hid hg
    have K := Lib.hid hheld
    have HK := Lib.hid hkey
    have HM := Lib.hid hm
    clear hg hheld hkey hm K0
    by_cases hlt : k < len
    · have z1 : (k : Int) < (len : Int) := by omega
      obtain ⟨b, off, hA, hbl, hcell⟩ := HAT.out (by rw [HLEN.out]; omega)
      subst hA
      obtain ⟨x, hx⟩ := ex_at (xs := ws) (k := k) (by rw [HLEN.out]; exact hlt)
      have hc := (K.out.bel.cell (p := ⟨b, off + k, none⟩) (by have := HBW.out; simp only; omega)).trans ((B1.out.cell (p := ⟨b, off + k, none⟩) hbl).trans (hcell k x hx))
      obtain ⟨x0, x1⟩ := HR.out.at hx
      have HX := Lib.hid (getD_of hx)
      clear hcell hx
      by_cases hpos : 0 < x
      · obtain ⟨d, rfl⟩ : ∃ d : Nat, x = d := ⟨x.toNat, by omega⟩
        have hd : 0 < d := by omega
        have HD := Lib.hid hd
        have ew : IntKind.u64.wrap (d : Int) = (d : Int) := by rw [IntKind.wrap_u64]; omega
        have P1 := Lib.hid (put_ok wr hb B lv s k 1 d K.out.lies K.out.ok (by rw [HK.out.1]; omega) hd (by decide) (by omega) (by have := HM.out; omega))
        go_wp2_with fail
        refine P1.out.mono ?_
        rintro e w3 hm3
        obtain ⟨lv3, s3, rfl, hh3, hc3, _, _⟩ := K.out.mut hm3
        have K3 := Lib.hid hh3
        have HK3 := Lib.hid (HK.out.put (by omega) (getD_zeros _ _) HX.out.symm HD.out ⟨hc3.1, hc3.2.2.1, hc3.2.2.2⟩)
        have HM3 := Lib.hid (show s3.m ≤ k + 1 by have h1 := hc3.2.1; have h2 := HM.out; split at h1 <;> omega)
        clear hm3 hh3 hc3 P1
        go_wp2_with fail
        go_roundg (len - (k + 1))
        case measure => have := HG.out; omega
        case rel => exact ⟨k + 1, lv3, s3, by rw [HLEN.out]; omega, by rw [HLEN.out], by go_num, K3.out, HK3.out, HM3.out⟩
      · have HKS := Lib.hid (HK.out.skip (by rw [HX.out]; exact hpos))
        go_wp2_with fail
        go_roundg (len - (k + 1))
        case measure => have := HG.out; omega
        case rel => exact ⟨k + 1, lv, s, by rw [HLEN.out]; omega, by rw [HLEN.out], by go_num, K.out, HKS.out, Nat.le_trans HM.out (Nat.le_succ k)⟩
    · have hk2 : k = len := by omega
      subst hk2
      go_wp2_with fail
      generalize hw3 : wr.alloc (Obj.cells (rowOf (zeros k)) 3) = w3
      have K3 := Lib.hid (show Held B w1 w3 hb B lv s by rw [← hw3]; exact K.out.below ((Below.refl _ _).alloc (Nat.le_refl _) _))
      have HROW := Lib.hid (show RowAt w3 wr.heap.size (gr ws 0) by rw [← hw3]; show RowAt _ _ (zeros ws.length); rw [HLEN.out]; exact RowAt.new wr _)
      have HNF := Lib.hid (show ¬ Foot hb B lv wr.heap.size from fun hf => by have := K.out.lies.foot hf; omega)
      have HGB := Lib.hid (show B ≤ wr.heap.size from K.out.hB)
      have HKK := Lib.hid (show KeyedBy ws (gr ws 0) s ws.length by rw [HLEN.out]; show KeyedBy ws (zeros ws.length) s k; exact HK.out)
      have HMM := Lib.hid (show s.m ≤ 64 + 0 by have := HM.out; omega)
      generalize wr.heap.size = gb at HROW HNF HGB ⊢
      clear hw3 K HK HM hmk HG
      go_loopg [61] n (fun g s61 wr => TakeRel ws n B w1 hb B gb g s61 wr)
      case atStart => exact ⟨0, lv, s, Nat.zero_le _, rfl, rfl, K3.out, HKK.out, HMM.out, HROW.out, HNF.out⟩
      case round =>
        obtain ⟨j, lv2, s2, hj, hg2, rfl, hheld, hkey, hm, hrow, hnf⟩ := hrel
        have HG2 := Lib.hid hg2
        have K2 := Lib.hid hheld
        have HK2 := Lib.hid hkey
        have HM2 := Lib.hid hm
        have HROW2 := Lib.hid hrow
        have HNF2 := Lib.hid hnf
        clear hg2 hheld hkey hm hrow hnf K3 HROW HNF HKK HMM
        by_cases hlt2 : j < n
        · have z2 : (j : Int) < (n : Int) := by omega
          obtain ⟨b, hbn, hbl, hwb⟩ := next_gr HR.out (n := j) (by omega)
          obtain ⟨hm0, hL0⟩ := next_is K2.out.ok HK2.out HR.out (length_gr ws j) (fun i => by have := fits_gr ws j i; omega) hbn
          rw [HLEN.out] at hbl
          have z3 : (b : Int) < (k : Int) := by omega
          have t1 := min_any _ hb B lv2 s2 K2.out.lies
          unfold minV at t1
          rw [if_neg hm0, hL0] at t1
          have T1 := Lib.hid t1
          obtain ⟨y, hy⟩ := ex_at (xs := gr ws j) (k := b) (by rw [length_gr, HLEN.out]; exact hbl)
          obtain ⟨y1, y2⟩ := fits_at (fits_gr ws j) hy
          obtain ⟨ab, off, hA, hab, hcell⟩ := HAT.out (by rw [HLEN.out]; omega)
          subst hA
          obtain ⟨x, hx⟩ := ex_at (xs := ws) (k := b) (by rw [HLEN.out]; exact hbl)
          obtain ⟨x0, x1⟩ := HR.out.at hx
          have hwx := getD_of hx
          rw [hwx] at hwb
          obtain ⟨d, rfl⟩ : ∃ d : Nat, x = d := ⟨x.toNat, by omega⟩
          have hcx := (K2.out.bel.cell (p := ⟨ab, off + b, none⟩) (by have := HBW.out; simp only; omega)).trans ((B1.out.cell (p := ⟨ab, off + b, none⟩) hab).trans (hcell b _ hx))
          have hck := HROW2.out.cell hy
          have hfz := HROW2.out.frozen b
          obtain ⟨q, hq⟩ : ∃ q : Nat, y + 1 = (q : Int) := ⟨(y + 1).toNat, by omega⟩
          obtain ⟨r, hr⟩ : ∃ r : Nat, (q : Int) + 1 = (r : Int) := ⟨q + 1, by omega⟩
          have qb : q ≤ 257 := by omega
          have rb : r ≤ 258 := by omega
          have ew : IntKind.u64.wrap (d : Int) = (d : Int) := by rw [IntKind.wrap_u64]; omega
          have er : IntKind.u64.wrap (r : Int) = (r : Int) := by rw [IntKind.wrap_u64]; omega
          have ei : IntKind.i64.wrap (r : Int) = (r : Int) := IntWalk.i64_in _ (by omega)
          have ej : IntKind.u8.wrap ((j : Int) + 1) = ((j + 1 : Nat) : Int) := by
            have : IntKind.u8.wrap ((j : Int) + 1) = ((j : Int) + 1) % 256 := by simp [IntKind.wrap, IntKind.bits, IntKind.signed]
            rw [this]; omega
          have HEJ := Lib.hid ej
          have HNX := Lib.hid hbn
          have HY := Lib.hid hy
          have HWX := Lib.hid hwx
          have HDP := Lib.hid (show 0 < d by omega)
          have HQ := Lib.hid hq
          have HRR := Lib.hid hr
          have hglt := HROW2.out.lt
          have hag : ab ≠ gb := by have := HBW.out; have := HGB.out; omega
          clear t1 hbn hm0 hL0 hy hcell hx hwx ej y2
          go_wp2_with fail
          refine T1.out.mono ?_
          rintro e w ⟨rfl, rfl⟩
          go_upto_region 19 with fail
          generalize hw4 : wr.setCell { block := gb, off := b } (Value.int IntKind.i64 ↑q) = w4
          have K4 := Lib.hid (show Held B w1 w4 hb B lv2 s2 by
            rw [← hw4]
            exact ⟨K2.out.lies.keep (fun k hf => Below.heap_setCell _ _ _ _ (fun e => HNF2.out (by have e' : k = gb := e; rw [← e']; exact hf))), K2.out.ok, K2.out.h1, K2.out.h2, K2.out.h3, K2.out.bel.setCell HGB.out _, by simpa [World.setCell] using K2.out.hB⟩)
          have R4 := Lib.hid (show RowAt w4 gb (gr ws (j + 1)) by
            rw [← hw4, ← gr_step HNX.out HY.out, HQ.out]
            exact HROW2.out.set_ b q)
          have hcx4 : w4.cell? ⟨ab, off + b, none⟩ = some (.int .i64 d) := by
            rw [← hw4, cell_of_same (Below.heap_setCell _ _ _ _ hag)]
            exact hcx
          have hcq4 : w4.cell? ⟨gb, b, none⟩ = some (.int .i64 q) := by
            rw [← hw4]
            have := (HROW2.out.set_ b q).cell (j := b) (x := (q : Int)) (by rw [List.getElem?_set_self (by rw [length_gr, HLEN.out]; exact hbl)])
            exact this
          have hsz4 : wr.heap.size = w4.heap.size := by rw [← hw4]; simp [World.setCell]
          have HSZ4 := Lib.hid (show gb < w4.heap.size by omega)
          have HAB := Lib.hid (show ab < w4.heap.size by have := HBW.out; have := HGB.out; omega)
          have HNA := Lib.hid (show ¬ Foot hb B lv2 ab from fun hf => by have := K2.out.foot hf; have := HBW.out; omega)
          have KD := Lib.hid (show Held B w1 w4.drew hb B lv2 s2 from K4.out.below (below6_drewN (Below.refl _ _) 1))
          have P1 := Lib.hid (put_ok w4.drew hb B lv2 s2 b r d KD.out.lies KD.out.ok (by rw [HK2.out.1]; omega) HDP.out (by omega) (by omega) (by have := HM2.out; omega))
          clear hw4 hcx hck hfz hq T1 hglt hsz4 y1
          go_region_held3 (fun w' => w'.cell? ⟨gb, b, none⟩ = some (.int .i64 q) ∧ w'.cell? ⟨ab, off + b, none⟩ = some (.int .i64 d))
            (first
              | go_keep
              | (go_split_ands
                 refine ⟨?_, ?_⟩
                 · (rw [cell_of_same (ha3.block gb HSZ4.out HNF2.out)]; assumption)
                 · (rw [cell_of_same (ha3.block ab HAB.out HNA.out)]; assumption)))
            ((go_at_call 10; refine P1.out.mono ?_; rintro e w5 hm3; obtain ⟨lv3, s3, rfl, hh3, hc3, ha3, hg3⟩ := KD.out.mut hm3))
          have K5 := Lib.hid hh3
          have HK5 := Lib.hid (show KeyedBy ws (gr ws (j + 1)) s3 ws.length by
            rw [← gr_step HNX.out HY.out]
            have := HK2.out.again (s' := s3) (y := b) (nu := r) (de := d) (by rw [HLEN.out]; exact hbl) (by rw [length_gr, HLEN.out]; exact hbl) (by rw [HWX.out]; have := HDP.out; omega) (by rw [getD_of HY.out, HQ.out, HRR.out]) (by rw [HWX.out]) ⟨hc3.1, hc3.2.2.1, hc3.2.2.2⟩
            rwa [getD_of HY.out] at this)
          have HM5 := Lib.hid (show s3.m ≤ 64 + (j + 1) by have h1 := hc3.2.1; have h2 := HM2.out; split at h1 <;> omega)
          have R5 := Lib.hid (show RowAt w5 gb (gr ws (j + 1)) from RowAt.apart (F := Foot hb B lv2) (show RowAt w4.drew gb (gr ws (j + 1)) from R4.out) ha3 HNF2.out)
          have HNF5 := Lib.hid (show ¬ Foot hb B lv3 gb from fun hf => by
            rcases hf with hf | hf | hf
            · exact HNF2.out (.inl hf)
            · exact HNF2.out (.inr (.inl hf))
            · rcases hg3 gb hf with g | g
              · exact HNF2.out (.inr (.inr g))
              · have h1 : w4.heap.size ≤ gb := g
                have := HSZ4.out
                omega)
          clear hm3 hh3 hc3 ha3 hg3 P1 hcx4 hcq4
          have ej := HEJ.out
          go_wp2_with fail
          go_roundg (n - (j + 1))
          case measure => have := HG2.out; omega
          case rel => exact ⟨j + 1, lv3, s3, by omega, rfl, by first | rfl | go_num, K5.out, HK5.out, HM5.out, R5.out, HNF5.out⟩
        · have hj2 : j = n := by omega
          subst hj2
          have hgot : IntsAt wr (.slice (some ⟨gb, 0, none⟩) k k) (gr ws j) := by
            have := HROW2.out.ints (by rw [length_gr, HLEN.out]; omega) k
            rwa [length_gr, HLEN.out] at this
          have t1 := same_any (gr ws j) (gr ws j) _ _ wr hgot (HAT1.out.keep (by rw [HBE.out]; exact K2.out.bel))
          rw [show decide (gr ws j = gr ws j) = true from decide_eq_true rfl] at t1
          have T1 := Lib.hid t1
          have BB := Lib.hid (B1.out.trans (K2.out.bel.mono HBW.out))
          clear t1 hgot
          go_wp2_with fail
          refine T1.out.mono ?_
          rintro e w5 ⟨rfl, hb5⟩
          have B5 := Lib.hid (BB.out.trans (hb5.mono (Nat.le_trans HBW.out K2.out.hB)))
          have Z5 := Lib.hid (Nat.le_trans (Nat.le_trans HBW.out K2.out.hB) hb5.size)
          clear hb5 T1
          go_wp2_with fail
          refine (begins_any w5).mono ?_
          rintro e w6 ⟨rfl, hb6⟩
          have B6 := Lib.hid (B5.out.trans (hb6.mono Z5.out))
          clear hb6
          go_wp2_with fail
          go_ret
          exact ⟨rfl, B6.out⟩

theorem topSeats_law (n : Nat) (ws : List Int) (v : Value) (W : World) (hu : IntsAt W v ws) (hn : n < 256) : Calls Try.prog 6 #[.int .u8 n, v] W (RetB6 (.bool true) W) := by
  by_cases h : Right ws
  · exact topSeats_good n ws v W hn hu h
  · exact topSeats_bad n ws v W hn hu h
end Go.Proofs.Ytademjmnoncieaa
