/-
  The program's Encode.
  Conditions: none.
-/
import Derived.Test.YtaffcpjhaacadaaCheck
import Derived.Test.YtaffcpjhaacadaaRunLen
import Derived.Test.YtaffcpjhaacadaaPut
set_option linter.unusedVariables false
namespace Go.Proofs.Ytaffcpjhaacadaa
open Go.RowKit

/-- A literal of words. -/
theorem lit_words (W : World) (xs : List Nat) (base : Nat) (hb : base ≤ W.heap.size) (hl : xs.length ≤ 1000) : OwnK .u64 44 (W.alloc (.cells (xs.map fun n : Nat => Value.int .u64 n).toArray 44)) base (.slice (some ⟨W.heap.size, 0, none⟩) xs.length xs.length) xs := by
  have := World.ownsRow_lit (base := base) (e := 44) (size := 1) W (xs.map fun n : Nat => Value.int .u64 n).toArray xs.length hb (by unfold maxLen; omega) (by simp)
  unfold OwnK
  simpa using this

/-- What Encode answers. -/
def EncP (m : Int) (R : List (List Int)) (w : World) (e : Ending) (w' : World) : Prop :=
  (rightW m R = true ∧ ∃ v, e = .returned (.tuple #[v, .int .i64 0]) ∧ Own w' w.heap.size v (encW m R) ∧ Below w.heap.size w w') ∨
    (rightW m R = false ∧ e = .returned (.tuple #[.slice none 0 0, .int .i64 1]) ∧ Below w.heap.size w w')
theorem EncP.yes {m : Int} {R : List (List Int)} {w w' : World} {e : Ending} (h : EncP m R w e w') (hr : rightW m R = true) : ∃ v, e = .returned (.tuple #[v, .int .i64 0]) ∧ Own w' w.heap.size v (encW m R) ∧ Below w.heap.size w w' := by
  rcases h with ⟨_, h⟩ | ⟨h, _⟩
  · exact h
  · rw [hr] at h; cases h
theorem EncP.no {m : Int} {R : List (List Int)} {w w' : World} {e : Ending} (h : EncP m R w e w') (hr : rightW m R = false) : e = .returned (.tuple #[.slice none 0 0, .int .i64 1]) ∧ Below w.heap.size w w' := by
  rcases h with ⟨h, _⟩ | ⟨_, h⟩
  · rw [hr] at h; cases h
  · exact h

/-- The numbers written so far: those of the rows that are done. -/
def EncRel (m : Int) (M n base : Nat) (ALL : List Nat) (w : World) (g : Nat) (s1 s7 : Value) (wr : World) : Prop :=
  ∃ (L : List (Value × List Int)) (done : List Nat), g = L.length ∧ RightR m (rowsOf L) ∧ RowsAt w s1 L ∧ OwnK .u64 44 wr base s7 (M :: n :: done) ∧ done ++ rest none (rowsOf L) = ALL ∧ Below w.heap.size w wr

set_option maxRecDepth 100000 in
set_option maxHeartbeats 4000000 in
theorem encode_any (m : Int) (v : Value) (ls : List (Value × List Int)) (w : World) (hv : RowsAt w v ls) : Calls Try.prog 9 #[.int .i64 m, v] w (EncP m (rowsOf ls) w) := by
  have HV := Lib.hid hv
  have HC := Lib.hid (check_any m v ls w hv)
  cases hr : rightW m (rowsOf ls) with
  | false =>
    have hi : checkI m (rowsOf ls) = 1 := by unfold checkI; rw [hr]; rfl
    rw [hi] at HC
    clear hi
    go_enter Try.func9, Try.ntmps9
    go_wp2_with (go_at_call 10; refine HC.out.mono ?_; rintro e w' ⟨rfl, rfl⟩)
    go_ret2
    exact .inr ⟨hr, rfl, Below.refl _ _⟩
  | true =>
    have hi : checkI m (rowsOf ls) = 0 := by unfold checkI; rw [hr]; rfl
    rw [hi] at HC
    have hrr := rightW_iff.1 hr
    have HRR := Lib.hid hrr
    have HRT := Lib.hid hr
    have hm1 := hrr.m1
    have hm16 := hrr.m16
    have hnl := hrr.len
    rw [rowsOf_length] at hnl
    have HCNT := Lib.hid (hrr.count none)
    have HSM := Lib.hid hrr.small
    obtain ⟨A, c, rfl, hlc⟩ := hv.form
    obtain ⟨M, rfl⟩ : ∃ M : Nat, m = (M : Int) := ⟨m.toNat, by omega⟩
    have HNW := Lib.hid (show numsW (M : Int) (rowsOf ls) = M :: ls.length :: rest none (rowsOf ls) by unfold numsW; rw [Int.toNat_natCast, rowsOf_length])
    have HEN := Lib.hid (show encW (M : Int) (rowsOf ls) = encs (numsW (M : Int) (rowsOf ls)) from rfl)
    obtain ⟨ALL, hALL⟩ : ∃ ALL, ALL = rest none (rowsOf ls) := ⟨_, rfl⟩
    rw [← hALL] at HCNT HNW
    have HALL := Lib.hid hALL
    generalize hn : ls.length = n at *
    have HN := Lib.hid hn
    have hM : IntKind.u64.wrap (M : Int) = (M : Int) := by rw [IntKind.wrap_u64]; omega
    have hnw : IntKind.u64.wrap (n : Int) = (n : Int) := by rw [IntKind.wrap_u64]; omega
    have hlit : OwnK .u64 44 (w.alloc (.cells #[.int .u64 M, .int .u64 n] 44)) w.heap.size (.slice (some ⟨w.heap.size, 0, none⟩) 2 2) [M, n] := lit_words w [M, n] w.heap.size (Nat.le_refl _) (by simp)
    have hb2 := below_new (W := w) (.cells #[.int .u64 M, .int .u64 n] 44)
    have HLIT := Lib.hid hlit
    have HB2 := Lib.hid hb2
    clear hlit hb2 hv hr hi hrr hm1 hm16 hALL hn hlc
    go_enter Try.func9, Try.ntmps9
    go_wp2_with (go_at_call 10; refine HC.out.mono ?_; rintro e w' ⟨rfl, rfl⟩)
    go_loopg [1, 7] n (fun g s1 s7 wr => EncRel M M n w.heap.size ALL w g s1 s7 wr)
    case atStart => exact ⟨ls, [], HN.out.symm, HRR.out, HV.out, HLIT.out, by rw [HALL.out]; rfl, HB2.out⟩
    case round =>
      obtain ⟨L, done, hg, hrr, hv, hown, hdone, hbr⟩ := hrel
      have HG := Lib.hid hg
      have HBR := Lib.hid hbr
      have hsz := hbr.size
      have HO := Lib.hid hown
      have HDN := Lib.hid hdone
      have HRW := Lib.hid hrr
      have HVR := Lib.hid hv
      clear hg hbr hown hdone hrr
      rcases L with _ | ⟨p, L⟩
      · obtain ⟨A', c', rfl, _⟩ := hv.form
        have HF := Lib.hid (show OwnK .u64 44 wr w.heap.size u7 (M :: n :: ALL) by
          have h := HO.out
          rw [← HDN.out]
          simpa [rest_nil] using h)
        have HP := Lib.hid (put_any (.slice none 0 0) u7 [] (M :: n :: ALL) wr (BytesAt.nil _) (HF.out.words (by rw [← HNW.out]; exact fun x hx => by have := HSM.out x hx; omega)) (by decide) (by simp only [List.length_cons]; have := HCNT.out; omega))
        clear hv
        simp only [List.length_nil]
        go_wp2_with (go_at_call 21; refine HP.out.mono ?_; rintro e w5 ⟨v5, rfl, ho5, hb5⟩)
        go_ret2
        refine .inl ⟨HRT.out, v5, rfl, ?_, HBR.out.trans (hb5.mono hsz)⟩
        rw [HEN.out, HNW.out]
        exact ho5.weaken hsz
      · obtain ⟨A', c', rfl, hc'⟩ := hv.form
        obtain ⟨b, off, rfl⟩ := hv.addr (by simp)
        obtain ⟨B, x, d, xs, hat, hxn, hck, hi⟩ := hv.row_at (k := 0) (by simp)
        have hp : p = (.slice B x d, xs) := by simpa using hat
        subst hp
        have HRUN := Lib.hid (runLength_any _ ((Value.slice B x d, xs) :: L) xs (rowsOf L) wr (hv.keep HBR.out) rfl)
        rw [Nat.add_zero] at hck
        have HBLK := Lib.hid (hv.blk (by simp))
        have hck0 := hck
        have hck1 := (HBR.out.cell (p := ⟨b, off, none⟩) HBLK.out).trans hck
        have hkl := runL_le xs (rowsOf L)
        rw [rowsOf_length] at hkl
        have hLn : (rowsOf ((Value.slice B x d, xs) :: L)).length ≤ 4096 := HRW.out.len
        rw [rowsOf_length] at hLn
        have HHD := Lib.hid (show rest none (rowsOf ((Value.slice B x d, xs) :: L)) = (runL xs (rowsOf L) + 1) :: (xs.map Int.toNat ++ rest none ((rowsOf L).drop (runL xs (rowsOf L)))) from rest_head _ _)
        have HNUM := Lib.hid (HRW.out.num xs (by simp))
        have HXM := Lib.hid (HRW.out.rowN xs (by simp))
        have hx16 : x ≤ 16 := by have := HXM.out; rw [hxn, Int.toNat_natCast] at this; have := HRW.out.m16; omega
        have HX := Lib.hid hxn
        have HI := Lib.hid hi
        have HDROP := Lib.hid (show (rowsOf L).drop (runL xs (rowsOf L)) = rowsOf (((Value.slice B x d, xs) :: L).drop (runL xs (rowsOf L) + 1)) by simp [List.map_drop])
        generalize hK : runL xs (rowsOf L) + 1 = K at *
        have hK1 : 1 ≤ K := by omega
        have hKL : K ≤ ((Value.slice B x d, xs) :: L).length := by simp only [List.length_cons]; omega
        generalize hLN : ((Value.slice B x d, xs) :: L).length = LN at *
        have HLN := Lib.hid hLN
        have hL0 : (0 : Int) < (LN : Int) := by omega
        have hKw : IntKind.u64.wrap (K : Int) = (K : Int) := by rw [IntKind.wrap_u64]; omega
        have HDL := Lib.hid (show done.length ≤ 69632 by have h := HCNT.out; rw [← HDN.out, List.length_append] at h; omega)
        clear hv hat hxn hi hkl hK hLN hck
        go_wp2_with fail
        refine HRUN.out.mono ?_
        rintro e w2 ⟨rfl, q2, hw2⟩
        have hb2 : Below wr.heap.size wr w2 := by rw [hw2]; exact below_drewN (Below.refl _ _) q2
        have HBR2 := Lib.hid (HBR.out.trans (hb2.mono hsz))
        have hs2 := HBR2.out.size
        have HO2 := Lib.hid (HO.out.keep hb2)
        have HCK := Lib.hid hck0
        have hck2 : w2.cell? ⟨b, off, none⟩ = some (.slice B x d) := by rw [hw2]; exact hck1
        clear hck1 hw2 hb2 hck0
        go_wp2_with (at_builtin; refine wpList_append_num rfl _ _ 45 .u64 44 rfl w.heap.size Try.underlying45 Try.infoU _ _ rfl (HO2.out.alloc _) w2.heap.size 1 K rfl ?hcell ?hlen2 ?hbase ?_)
        case hcell => exact (Boxed.new w2 44 (.int .u64 K)).cell
        case hlen2 => have := HDL.out; simp only [List.length_cons]; omega
        case hbase => simp; omega
        intro v3 w3 hown3 hb3
        have HB3 := Lib.hid ((HBR2.out.alloc hs2 _).trans hb3)
        have hs3 := HB3.out.size
        have HO3 := Lib.hid (show OwnK .u64 44 w3 w.heap.size v3 (M :: n :: (done ++ K :: (xs.map Int.toNat).take 0)) from hown3)
        have hck3 := (HB3.out.cell (p := ⟨b, off, none⟩) HBLK.out).trans HCK.out
        clear hown3 hb3 hck2
        go_wp2_with fail
        clear hck3
        go_loopg [7, 37] x (fun g2 s7 s37 wr => ∃ j : Nat, j ≤ x ∧ g2 = x - j ∧ s37 = .int .i64 j ∧ OwnK .u64 44 wr w.heap.size s7 (M :: n :: (done ++ K :: (xs.map Int.toNat).take j)) ∧ Below w.heap.size w wr)
        case atStart => exact ⟨0, Nat.zero_le _, rfl, rfl, HO3.out, HB3.out⟩
        case round =>
          obtain ⟨j, hj, hg2, rfl, hownj, hbj⟩ := hrel
          have HG2 := Lib.hid hg2
          have HOJ := Lib.hid hownj
          have HBJ := Lib.hid hbj
          have hsj := hbj.size
          clear hg2 hownj hbj
          by_cases hlt : j < x
          · have hltz : (j : Int) < (x : Int) := by omega
            obtain ⟨A2, c2, e2, hl2, hat2⟩ := HI.out
            injection e2 with e21 e22 e23
            obtain ⟨y, hy⟩ := exI_at (xs := xs) (k := j) (by have := HX.out; omega)
            obtain ⟨b2, off2, hA2, hbl2, hcell2⟩ := hat2 (by have := HX.out; omega)
            rw [hA2] at e21
            subst e21
            have hmem := List.mem_of_getElem? hy
            have h0 := HNUM.out y hmem
            obtain ⟨Y, rfl⟩ : ∃ Y : Nat, y = (Y : Int) := ⟨y.toNat, by omega⟩
            have hckj := (HBJ.out.cell (p := ⟨b2, off2 + j, none⟩) hbl2).trans (hcell2 j _ hy)
            have hyw : IntKind.u64.wrap (Y : Int) = (Y : Int) := by rw [IntKind.wrap_u64]; omega
            have HT := Lib.hid (show (xs.map Int.toNat).take (j + 1) = (xs.map Int.toNat).take j ++ [Y] by rw [List.take_add_one, List.getElem?_map, hy]; rfl)
            have HLNJ := Lib.hid (show ((xs.map Int.toNat).take j).length ≤ 16 by rw [List.length_take, List.length_map]; have := HX.out; omega)
            clear hcell2 hy hmem h0 hat2 hl2 e22 e23 hA2 hbl2
            go_wp2_with (at_builtin; refine wpList_append_num rfl _ _ 45 .u64 44 rfl w.heap.size Try.underlying45 Try.infoU _ _ rfl (HOJ.out.alloc _) wr.heap.size 1 Y rfl ?hcell ?hlen2 ?hbase ?_)
            case hcell => exact (Boxed.new wr 44 (.int .u64 Y)).cell
            case hlen2 => have := HDL.out; have := HLNJ.out; simp only [List.length_cons, List.length_append]; omega
            case hbase => simp; omega
            intro v4 w4 hown4 hb4
            have HO4 := Lib.hid hown4
            have HB4 := Lib.hid ((HBJ.out.alloc hsj _).trans hb4)
            clear hown4 hb4
            go_wp2_with fail
            go_roundg (x - (j + 1))
            case measure => have := HG2.out; omega
            case rel =>
              refine ⟨j + 1, by omega, rfl, by go_num, ?_, HB4.out⟩
              have h := HO4.out
              rw [HT.out]
              simpa using h
          · have hltz : ¬ (j : Int) < (x : Int) := by omega
            have HFJ := Lib.hid (show OwnK .u64 44 wr w.heap.size u7 (M :: n :: (done ++ K :: xs.map Int.toNat)) by
              have h := HOJ.out
              rwa [List.take_of_length_le (by rw [List.length_map]; have := HX.out; omega)] at h)
            have hKz : (K : Int) ≤ (LN : Int) := by omega
            have hKcz : (K : Int) ≤ (c' : Int) := by omega
            have hK0 : (0 : Int) ≤ (K : Int) := by omega
            have HLK := Lib.hid (show K ≤ ((Value.slice B x d, xs) :: L).length by rw [HLN.out]; exact hKL)
            by_cases hcK : c' = K
            · have hcKz : (c' : Int) = (K : Int) := by omega
              have HVE := Lib.hid (HVR.out.end_ (k := K) HLK.out hcK)
              go_wp2_with fail
              go_roundg (LN - K)
              case measure => have := HG.out; omega
              case rel =>
                refine ⟨((Value.slice B x d, xs) :: L).drop K, done ++ K :: xs.map Int.toNat, ?_, ?_, HVE.out, HFJ.out, ?_, HBJ.out⟩
                · rw [List.length_drop, HLN.out]
                · have h := HRW.out.drop K
                  rw [← List.map_drop] at h
                  exact h
                · rw [← HDN.out, HHD.out, HDROP.out]
                  simp
            · have hcKz : ¬ (c' : Int) = (K : Int) := by omega
              have HVE := Lib.hid (HVR.out.more_ (k := K) HLK.out)
              go_wp2_with fail
              go_roundg (LN - K)
              case measure => have := HG.out; omega
              case rel =>
                refine ⟨((Value.slice B x d, xs) :: L).drop K, done ++ K :: xs.map Int.toNat, ?_, ?_, HVE.out, HFJ.out, ?_, HBJ.out⟩
                · rw [List.length_drop, HLN.out]
                · have h := HRW.out.drop K
                  rw [← List.map_drop] at h
                  exact h
                · rw [← HDN.out, HHD.out, HDROP.out]
                  simp
end Go.Proofs.Ytaffcpjhaacadaa
