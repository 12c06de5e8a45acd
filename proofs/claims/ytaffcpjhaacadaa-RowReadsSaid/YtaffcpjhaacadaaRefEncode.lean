/-
  The document's Encode.
  Conditions: the rows are right.
-/
import Derived.Test.YtaffcpjhaacadaaCheck
import Derived.Test.YtaffcpjhaacadaaRefNum
set_option linter.unusedVariables false
namespace Go.Proofs.Ytaffcpjhaacadaa
open Go.RowKit

theorem byte_lit (W : World) (x : Nat) (h : x < 256) : BytesAt (W.alloc (.cells #[.int .u8 x] 5)) (.slice (some ⟨W.heap.size, 0, none⟩) 1 1) [x] :=
  (lit_own W [x] (by simpa using h) (by simp) 0 (Nat.zero_le _)).bytes
theorem encs_pre (a b : List Nat) : (encs a).length ≤ (encs (a ++ b)).length := by
  have : encs (a ++ b) = encs a ++ encs b := by simp [encs]
  rw [this, List.length_append]
  omega
/-- The row ahead of row k. -/
def prevO (R : List (List Int)) (k : Nat) : Option (List Int) := if k = 0 then none else R[k - 1]?
theorem prevO_succ (R : List (List Int)) (k : Nat) : prevO R (k + 1) = R[k]? := by
  unfold prevO
  rw [if_neg (by omega), Nat.add_sub_cancel]
theorem drop_at {R : List (List Int)} {k : Nat} {r : List Int} (h : R[k]? = some r) : R.drop k = r :: R.drop (k + 1) := by
  obtain ⟨hk, rfl⟩ := List.getElem?_eq_some_iff.1 h
  exact List.drop_eq_getElem_cons hk

def RefEncRel (M n base : Nat) (R : List (List Int)) (ALL : List Nat) (w : World) (g : Nat) (s5 s6 : Value) (wr : World) : Prop :=
  ∃ (k : Nat) (done : List Nat), k ≤ n ∧ g = n - k ∧ s6 = .int .i64 k ∧ Own wr base s5 (encs (M :: n :: done)) ∧ done ++ rest (prevO R k) (R.drop k) = ALL ∧ Below base w wr

set_option maxRecDepth 100000 in
set_option maxHeartbeats 4000000 in
theorem refEncode_any (m : Int) (v : Value) (ls : List (Value × List Int)) (w : World) (hv : RowsAt w v ls) (hrr : RightR m (rowsOf ls)) : Calls Try.prog 12 #[.int .i64 m, v] w (RetO w.heap.size (encW m (rowsOf ls)) w) := by
  have HV := Lib.hid hv
  have HRR := Lib.hid hrr
  have hm1 := hrr.m1
  have hm16 := hrr.m16
  have hnl := hrr.len
  rw [rowsOf_length] at hnl
  have HBY := Lib.hid hrr.bytes
  have HRN := Lib.hid hrr.rowN
  have HNUM := Lib.hid hrr.num
  obtain ⟨A, c, rfl, hlc⟩ := hv.form
  obtain ⟨M, rfl⟩ : ∃ M : Nat, m = (M : Int) := ⟨m.toNat, by omega⟩
  have HEN := Lib.hid (show encW (M : Int) (rowsOf ls) = encs (M :: ls.length :: rest none (rowsOf ls)) by unfold encW numsW; rw [Int.toNat_natCast, rowsOf_length])
  obtain ⟨R, hR⟩ : ∃ R, R = rowsOf ls := ⟨_, rfl⟩
  rw [← hR] at HRR HBY HRN HNUM HEN ⊢
  have HR := Lib.hid hR
  obtain ⟨ALL, hALL⟩ : ∃ ALL, ALL = rest none R := ⟨_, rfl⟩
  rw [← hALL] at HEN
  have HALL := Lib.hid hALL
  generalize hn : ls.length = n at *
  have HN := Lib.hid hn
  have hM : IntKind.u8.wrap (M : Int) = (M : Int) := by rw [IntKind.wrap_u8]; omega
  have hnw : IntKind.u64.wrap (n : Int) = (n : Int) := by rw [IntKind.wrap_u64]; omega
  have hM16 : M ≤ 16 := by omega
  have hEM := Lib.hid (show encs (M :: n :: []) = [M] ++ enc n by rw [encs_cons, encs_cons, encs_nil, enc_small (by omega), List.append_nil])
  have hlit : Own (w.alloc (.cells #[.int .u8 M] 5)) w.heap.size (.slice (some ⟨w.heap.size, 0, none⟩) 1 1) [M] := lit_own w [M] (by simp; omega) (by simp) w.heap.size (Nat.le_refl _)
  have HLIT := Lib.hid hlit
  have HB1 := Lib.hid (below_new (W := w) (.cells #[.int .u8 M] 5))
  have HN1 := Lib.hid (fun W => refNum_any n n W (Nat.le_refl _) (by omega))
  have HNL := Lib.hid (enc_ten (n := n) (by omega))
  have hs1 := HB1.out.size
  clear hlit hv hrr hm1 hm16 hALL hn hlc hR
  go_enter Try.func12, Try.ntmps12
  go_wp2_with fail
  refine (HN1.out _).mono ?_
  rintro e w2 ⟨v2, rfl, ho2, hb2⟩
  have HO2 := Lib.hid (HLIT.out.keep hb2)
  have HY2 := Lib.hid ho2.bytes
  have HB2 := Lib.hid (HB1.out.trans (hb2.mono hs1))
  have hs2 := HB2.out.size
  clear ho2 hb2
  go_wp2_with (at_builtin; refine wpList_append_bytes rfl _ _ 25 rfl w.heap.size Try.underlying25 Try.infoByte _ _ rfl HO2.out _ (enc n) rfl HY2.out ?hlx ?hbx ?_)
  case hlx => have := HNL.out; simp; omega
  case hbx => exact hs2
  intro v3 w3 hown3 hb3
  have HO3 := Lib.hid hown3
  have HB3 := Lib.hid (HB2.out.trans hb3)
  clear hown3 hb3
  go_wp2_with fail
  go_loopg [5, 6] n (fun g s5 s6 wr => RefEncRel M n w.heap.size R ALL w g s5 s6 wr)
  case atStart => exact ⟨0, [], Nat.zero_le _, rfl, rfl, by rw [hEM.out]; exact HO3.out, by rw [HALL.out]; rfl, HB3.out⟩
  case round =>
    obtain ⟨k, done, hk, hg, rfl, hown, hdone, hbr⟩ := hrel
    have HG := Lib.hid hg
    have HO := Lib.hid hown
    have HDN := Lib.hid hdone
    have HBR := Lib.hid hbr
    have hsz := hbr.size
    clear hg hown hdone hbr
    by_cases hlt : k < n
    · have hltz : (k : Int) < (n : Int) := by omega
      obtain ⟨b, off, rfl⟩ := HV.out.addr (by have := HN.out; omega)
      have HBLK := Lib.hid (HV.out.blk (by have := HN.out; omega))
      obtain ⟨B, x, d, xs, hat, hxn, hck0, hi⟩ := HV.out.row_at (k := k) (by have := HN.out; omega)
      have HAT := Lib.hid (show R[k]? = some xs by rw [HR.out]; exact snd_at hat)
      have HX := Lib.hid hxn
      have HI := Lib.hid hi
      have HCK := Lib.hid hck0
      have hxM : x = M := by
        have h1 := HRN.out xs (List.mem_of_getElem? HAT.out)
        rw [Int.toNat_natCast] at h1
        omega
      subst hxM
      have hck := (HBR.out.cell (p := ⟨b, off + k, none⟩) HBLK.out).trans hck0
      obtain ⟨SK, hSK⟩ : ∃ SK : Bool, SK = decide (prevO R k = some xs) := ⟨_, rfl⟩
      have HSK := Lib.hid hSK
      clear hat hxn hi hck0 hSK
      go_wp2_with fail
      go_cut [36] from 23 to 36 (fun s36 wx => s36 = .bool SK ∧ Below wr.heap.size wr wx)
      case first =>
        by_cases hk0 : k = 0
        · have hk0z : ¬ (0 : Int) < (k : Int) := by omega
          have hk0n : ¬ 0 < k := by omega
          have hb := Lib.hid (show false = SK by rw [HSK.out]; unfold prevO; rw [if_pos hk0]; rfl)
          clear hk0
          go_wp2_with fail
          go_quiet (fail)
          go_wp2_with fail
          go_meet
          exact ⟨by rw [← hb.out], below_drewN (Below.refl _ _) _⟩
        · have hk0z : (0 : Int) < (k : Int) := by omega
          have hk0n : 0 < k := by omega
          obtain ⟨kp, hkp⟩ : ∃ kp, kp = k - 1 := ⟨_, rfl⟩
          have hkz : (k : Int) - 1 = (kp : Int) := by omega
          obtain ⟨B2, x2, d2, xs2, hat2, hxn2, hck2, hi2⟩ := HV.out.row_at (k := kp) (by have := HN.out; omega)
          have hckp := (HBR.out.cell (p := ⟨b, off + kp, none⟩) HBLK.out).trans hck2
          have hb := Lib.hid (show decide (xs2 = xs) = SK by
            rw [HSK.out]
            unfold prevO
            rw [if_neg hk0, ← hkp, HR.out, snd_at hat2]
            simp)
          have HC := Lib.hid (fun q => refInts_any xs2 xs _ _ (wr.drewN q) ((hi2.keep HBR.out).draw q) ((HI.out.keep HBR.out).draw q))
          rw [hb.out] at HC
          have hkpn : (kp : Int) < (n : Int) := by omega
          have hkp0 : (0 : Int) ≤ (kp : Int) := by omega
          have hkw : IntKind.i64.wrap (kp : Int) = (kp : Int) := IntWalk.i64_in _ (by omega)
          clear hat2 hxn2 hck2 hi2 hk0 hkp hb
          go_wp2_with fail
          go_quiet (first | (go_at_call 25; exact quiet_retD (HC.out _)))
          go_wp2_with fail
          go_meet
          exact ⟨rfl, below_drewN (Below.refl _ _) _⟩
      case rest =>
        obtain ⟨rfl, hbc⟩ := hcut
        have HBC := Lib.hid hbc
        have HBCW := Lib.hid (HBR.out.trans (hbc.mono hsz))
        have HOC := Lib.hid (HO.out.keep hbc)
        clear hbc hck
        cases SK with
        | true =>
          have hsk := of_decide_eq_true HSK.out.symm
          have HD2 := Lib.hid (show done ++ rest (prevO R (k + 1)) (R.drop (k + 1)) = ALL by
            rw [← HDN.out, drop_at HAT.out, hsk, rest_skip, prevO_succ, HAT.out])
          clear hsk
          go_wp2_with fail
          go_roundg (n - (k + 1))
          case measure => have := HG.out; omega
          case rel => exact ⟨k + 1, done, by omega, rfl, by go_num, HOC.out, HD2.out, HBCW.out⟩
        | false =>
          have hsk := of_decide_eq_false HSK.out.symm
          have HDR := Lib.hid (drop_at HAT.out)
          have HHD := Lib.hid (show rest (prevO R k) (R.drop k) = (runL xs (R.drop k)) :: (xs.map Int.toNat ++ rest (some xs) (R.drop (k + 1))) by
            rw [drop_at HAT.out, rest_new hsk]
            have : runL xs (xs :: R.drop (k + 1)) = runL xs (R.drop (k + 1)) + 1 := by
              conv => lhs; unfold runL
              rw [if_pos rfl]
            rw [this])
          have HRK := Lib.hid (show ∀ K, (∀ i, i < K → R[k + i]? = some xs) → R[k + K]? ≠ some xs → runL xs (R.drop k) = K from
            fun K h1 h2 => runL_is (fun j hj => by rw [List.getElem?_drop]; exact h1 j hj) (by rw [List.getElem?_drop]; exact h2))
          clear hsk
          go_wp2_with fail
          go_loopg [7] (n - k) (fun g2 s7 wr2 => ∃ c2 : Nat, c2 + k ≤ n ∧ g2 = n - k - c2 ∧ s7 = .int .i64 c2 ∧ (∀ i, i < c2 → R[k + i]? = some xs) ∧ Below wc.heap.size wc wr2)
          case atStart => exact ⟨0, by omega, rfl, rfl, fun i hi => absurd hi (Nat.not_lt_zero _), Below.refl _ _⟩
          case round =>
            obtain ⟨c2, hc2, hg2, rfl, hall2, hb2⟩ := hrel
            have HG2 := Lib.hid hg2
            have HALL2 := Lib.hid hall2
            have HB2 := Lib.hid (HBCW.out.trans (hb2.mono HBCW.out.size))
            have HO2 := Lib.hid (HOC.out.keep hb2)
            have HBB2 := Lib.hid hb2
            have hck2 := (HB2.out.cell (p := ⟨b, off + k, none⟩) HBLK.out).trans HCK.out
            obtain ⟨kc, hkc⟩ : ∃ kc, kc = k + c2 := ⟨_, rfl⟩
            have hkcz : (k : Int) + (c2 : Int) = (kc : Int) := by omega
            have HKC := Lib.hid hkc
            have hkcn : kc ≤ n := by omega
            obtain ⟨SK2, hSK2⟩ : ∃ SK2 : Bool, SK2 = decide (R[kc]? = some xs) := ⟨_, rfl⟩
            have HSK2 := Lib.hid hSK2
            have hkcw : IntKind.i64.wrap (kc : Int) = (kc : Int) := IntWalk.i64_in _ (by omega)
            have hkc0 : (0 : Int) ≤ (kc : Int) := by omega
            clear hg2 hall2 hb2 hSK2 hkc
            go_wp2_with fail
            go_cut [55] from 37 to 55 (fun s55 wx => s55 = .bool SK2 ∧ Below wr.heap.size wr wx)
            case first =>
              by_cases hlt2 : kc < n
              · have hlt2z : (kc : Int) < (n : Int) := by omega
                obtain ⟨B2, x2, d2, xs2, hat2, hxn2, hck3, hi2⟩ := HV.out.row_at (k := kc) (by have := HN.out; omega)
                have hckc := (HB2.out.cell (p := ⟨b, off + kc, none⟩) HBLK.out).trans hck3
                have hb := Lib.hid (show decide (xs2 = xs) = SK2 by
                  rw [HSK2.out, HR.out, snd_at hat2]
                  simp)
                have HC := Lib.hid (fun q => refInts_any xs2 xs _ _ (wr.drewN q) ((hi2.keep HB2.out).draw q) ((HI.out.keep HB2.out).draw q))
                rw [hb.out] at HC
                clear hat2 hxn2 hck3 hi2 hb
                go_wp2_with fail
                go_quiet (first | (go_at_call 25; exact quiet_retD (HC.out _)))
                go_wp2_with fail
                go_meet
                exact ⟨rfl, below_drewN (Below.refl _ _) _⟩
              · have hlt2z : ¬ (kc : Int) < (n : Int) := by omega
                have hb := Lib.hid (show false = SK2 by
                  rw [HSK2.out, List.getElem?_eq_none (by rw [HR.out, rowsOf_length]; have := HN.out; omega)]
                  rfl)
                go_wp2_with fail
                go_quiet (fail)
                go_wp2_with fail
                go_meet
                exact ⟨by rw [← hb.out], below_drewN (Below.refl _ _) _⟩
            case rest =>
              obtain ⟨rfl, hbc⟩ := hcut
              have HBC3 := Lib.hid (HB2.out.trans (hbc.mono HB2.out.size))
              have HOC3 := Lib.hid (HO2.out.keep hbc)
              have HBB3 := Lib.hid (HBB2.out.trans (hbc.mono HBB2.out.size))
              clear hbc hck2
              cases SK2 with
              | true =>
                have hsk := of_decide_eq_true HSK2.out.symm
                have hkl : kc < n := by
                  have := (List.getElem?_eq_some_iff.1 hsk).1
                  rw [HR.out, rowsOf_length] at this
                  have := HN.out
                  omega
                have HSKE := Lib.hid hsk
                clear hsk
                go_wp2_with fail
                go_roundg (n - k - (c2 + 1))
                case measure => have := HG2.out; have := HKC.out; omega
                case rel =>
                  refine ⟨c2 + 1, by have := HKC.out; omega, rfl, by go_num, fun i hi => ?_, HBB3.out⟩
                  by_cases e : i = c2
                  · subst e; rw [← HKC.out]; exact HSKE.out
                  · exact HALL2.out i (by omega)
              | false =>
                have hsk := of_decide_eq_false HSK2.out.symm
                have HRUN := Lib.hid (HRK.out c2 HALL2.out (by rw [← HKC.out]; exact hsk))
                have HPRE := Lib.hid (show ALL = done ++ c2 :: (xs.map Int.toNat ++ rest (some xs) (R.drop (k + 1))) by rw [← HDN.out, HHD.out, HRUN.out])
                have hc2w : IntKind.u64.wrap (c2 : Int) = (c2 : Int) := by rw [IntKind.wrap_u64]; omega
                have HNC := Lib.hid (fun W => refNum_any c2 c2 W (Nat.le_refl _) (by omega))
                have HLC := Lib.hid (enc_ten (n := c2) (by omega))
                have hs3 := HBC3.out.size
                have HL1 := Lib.hid (show (encs (x :: n :: done)).length ≤ 700000 by
                  have h := HBY.out
                  rw [HEN.out, HPRE.out] at h
                  have h2 := encs_pre (x :: n :: done) (c2 :: (xs.map Int.toNat ++ rest (some xs) (R.drop (k + 1))))
                  simp only [List.cons_append] at h2
                  omega)
                clear hsk
                go_wp2_with fail
                refine (HNC.out _).mono ?_
                rintro e w4 ⟨v4, rfl, ho4, hb4⟩
                have HO4 := Lib.hid (HOC3.out.keep hb4)
                have HY4 := Lib.hid ho4.bytes
                have HB4 := Lib.hid (HBC3.out.trans (hb4.mono hs3))
                have hs4 := HB4.out.size
                clear ho4 hb4
                go_wp2_with (at_builtin; refine wpList_append_bytes rfl _ _ 25 rfl w.heap.size Try.underlying25 Try.infoByte _ _ rfl HO4.out _ (enc c2) rfl HY4.out ?hlx ?hbx ?_)
                case hlx => have := HL1.out; have := HLC.out; omega
                case hbx => exact hs4
                intro v5 w5 hown5 hb5
                have HO5 := Lib.hid (show Own w5 w.heap.size v5 (encs (x :: n :: (done ++ c2 :: (xs.map Int.toNat).take 0))) by
                  have e1 : encs (x :: n :: (done ++ c2 :: (xs.map Int.toNat).take 0)) = encs (x :: n :: done) ++ enc c2 := by simp [encs]
                  rw [e1]
                  exact hown5)
                have HB5 := Lib.hid (HB4.out.trans hb5)
                clear hown5 hb5
                go_wp2_with fail
                go_loopg [5, 8] x (fun g3 s5 s8 wr3 => ∃ j : Nat, j ≤ x ∧ g3 = x - j ∧ s8 = .int .i64 j ∧ Own wr3 w.heap.size s5 (encs (x :: n :: (done ++ c2 :: (xs.map Int.toNat).take j))) ∧ Below w.heap.size w wr3)
                case atStart => exact ⟨0, Nat.zero_le _, rfl, rfl, HO5.out, HB5.out⟩
                case round =>
                  obtain ⟨j, hj, hg3, rfl, hown3, hb3⟩ := hrel
                  have HG3 := Lib.hid hg3
                  have HO6 := Lib.hid hown3
                  have HB6 := Lib.hid hb3
                  have hs6 := hb3.size
                  clear hg3 hown3 hb3
                  by_cases hlt3 : j < x
                  · have hlt3z : (j : Int) < (x : Int) := by omega
                    have hck6 := (HB6.out.cell (p := ⟨b, off + k, none⟩) HBLK.out).trans HCK.out
                    obtain ⟨A2, c3, e2, hl2, hat2⟩ := HI.out
                    injection e2 with e21 e22 e23
                    obtain ⟨y, hy⟩ := exI_at (xs := xs) (k := j) (by have := HX.out; omega)
                    obtain ⟨b2, off2, hA2, hbl2, hcell2⟩ := hat2 (by have := HX.out; omega)
                    rw [hA2] at e21
                    subst e21
                    have hmem := List.mem_of_getElem? hy
                    have h0 := HNUM.out xs (List.mem_of_getElem? HAT.out) y hmem
                    obtain ⟨Y, rfl⟩ : ∃ Y : Nat, y = (Y : Int) := ⟨y.toNat, by omega⟩
                    have hckj := (HB6.out.cell (p := ⟨b2, off2 + j, none⟩) hbl2).trans (hcell2 j _ hy)
                    have hyw : IntKind.u64.wrap (Y : Int) = (Y : Int) := by rw [IntKind.wrap_u64]; omega
                    have HT := Lib.hid (show (xs.map Int.toNat).take (j + 1) = (xs.map Int.toNat).take j ++ [Y] by rw [List.take_add_one, List.getElem?_map, hy]; rfl)
                    have HNY := Lib.hid (fun W => refNum_any Y Y W (Nat.le_refl _) (by omega))
                    have HLY := Lib.hid (enc_ten (n := Y) (by omega))
                    have HL2 := Lib.hid (show (encs (x :: n :: (done ++ c2 :: (xs.map Int.toNat).take j))).length ≤ 700000 by
                      have h := HBY.out
                      rw [HEN.out, HPRE.out] at h
                      have h2 := encs_pre (x :: n :: (done ++ c2 :: (xs.map Int.toNat).take j)) ((xs.map Int.toNat).drop j ++ rest (some xs) (R.drop (k + 1)))
                      have e : x :: n :: (done ++ c2 :: (xs.map Int.toNat).take j) ++ ((xs.map Int.toNat).drop j ++ rest (some xs) (R.drop (k + 1))) = x :: n :: (done ++ c2 :: (xs.map Int.toNat ++ rest (some xs) (R.drop (k + 1)))) := by
                        simp only [List.cons_append, List.append_assoc]
                        rw [← List.append_assoc (List.take j _), List.take_append_drop]
                      rw [e] at h2
                      omega)
                    clear hcell2 hy hmem h0 hat2 hl2 e22 e23 hA2 hbl2
                    go_wp2_with fail
                    refine (HNY.out _).mono ?_
                    rintro e w7 ⟨v7, rfl, ho7, hb7⟩
                    have HO7 := Lib.hid (HO6.out.keep hb7)
                    have HY7 := Lib.hid ho7.bytes
                    have HB7 := Lib.hid (HB6.out.trans (hb7.mono hs6))
                    have hs7 := HB7.out.size
                    clear ho7 hb7 hck6 hckj
                    go_wp2_with (at_builtin; refine wpList_append_bytes rfl _ _ 25 rfl w.heap.size Try.underlying25 Try.infoByte _ _ rfl HO7.out _ (enc Y) rfl HY7.out ?hlx ?hbx ?_)
                    case hlx => have := HL2.out; have := HLY.out; omega
                    case hbx => exact hs7
                    intro v8 w8 hown8 hb8
                    have HO8 := Lib.hid (show Own w8 w.heap.size v8 (encs (x :: n :: (done ++ c2 :: (xs.map Int.toNat).take (j + 1)))) by
                      have e1 : encs (x :: n :: (done ++ c2 :: (xs.map Int.toNat).take (j + 1))) = encs (x :: n :: (done ++ c2 :: (xs.map Int.toNat).take j)) ++ enc Y := by rw [HT.out]; simp [encs]
                      rw [e1]
                      exact hown8)
                    have HB8 := Lib.hid (HB7.out.trans hb8)
                    clear hown8 hb8
                    go_wp2_with fail
                    go_roundg (x - (j + 1))
                    case measure => have := HG3.out; omega
                    case rel => exact ⟨j + 1, by omega, rfl, by go_num, HO8.out, HB8.out⟩
                  · have hlt3z : ¬ (j : Int) < (x : Int) := by omega
                    have HOF := Lib.hid (show Own wr w.heap.size u5 (encs (x :: n :: (done ++ c2 :: xs.map Int.toNat))) by
                      have h := HO6.out
                      rwa [List.take_of_length_le (by rw [List.length_map]; have := HX.out; omega)] at h)
                    have HD2 := Lib.hid (show (done ++ c2 :: xs.map Int.toNat) ++ rest (prevO R (k + 1)) (R.drop (k + 1)) = ALL by
                      rw [HPRE.out, prevO_succ, HAT.out]
                      simp)
                    go_wp2_with fail
                    go_roundg (n - (k + 1))
                    case measure => have := HG.out; omega
                    case rel => exact ⟨k + 1, done ++ c2 :: xs.map Int.toNat, by omega, rfl, by go_num, HOF.out, HD2.out, HB6.out⟩
    · have hltz : ¬ (k : Int) < (n : Int) := by omega
      have HF := Lib.hid (show Own wr w.heap.size u5 (encW (M : Int) R) by
        have h := HDN.out
        rw [List.drop_of_length_le (by rw [HR.out, rowsOf_length]; have := HN.out; omega), rest_nil, List.append_nil] at h
        rw [HEN.out, ← h]
        exact HO.out)
      go_wp2_with fail
      go_ret
      exact ⟨_, rfl, HF.out, HBR.out⟩
end Go.Proofs.Ytaffcpjhaacadaa
