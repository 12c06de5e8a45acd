/-
  The program's Encode.
  Conditions: the numbers are of their kind.
-/
import Derived.Test.YtkkaekcjinopkaaCheck
import Derived.Test.YtkkaekcjinopkaaOrders
set_option linter.unusedVariables false
namespace Go.Proofs.Ytkkaekcjinopkaa
open Go.RowKit

/-- A literal of words. -/
theorem lit_words (W : World) (xs : List Nat) (base : Nat) (hb : base ≤ W.heap.size) (hl : xs.length ≤ 1000) : OwnK .u64 40 (W.alloc (.cells (xs.map fun n : Nat => Value.int .u64 n).toArray 40)) base (.slice (some ⟨W.heap.size, 0, none⟩) xs.length xs.length) xs := by
  have := World.ownsRow_lit (base := base) (e := 40) (size := 1) W (xs.map fun n : Nat => Value.int .u64 n).toArray xs.length hb (by unfold maxLen; omega) (by simp)
  unfold OwnK
  simpa using this

/-- What Encode answers. -/
def EncP (r : Rep) (w : World) (e : Ending) (w' : World) : Prop :=
  (rightB r = true ∧ ∃ v, e = .returned (.tuple #[v, .int .i64 0]) ∧ Own w' w.heap.size v (encR r) ∧ Below w.heap.size w w') ∨
    (rightB r = false ∧ e = .returned (.tuple #[.slice none 0 0, .int .i64 1]) ∧ Below w.heap.size w w')

set_option maxRecDepth 100000 in
set_option maxHeartbeats 4000000 in
theorem encode_any (r : Rep) (u : Value) (w : World) (hu : IntsAt w u r.ns) (hs : ∀ n ∈ r.ns, n ≤ 9223372036854775807) : Calls Try.prog 7 #[.agg (repA r u)] w (EncP r w) := by
  have hb1 := below_new (W := w) (.cells (repA r u) 25)
  have ha1 := RepAt.new w r u
  obtain ⟨c0, c1, c2, c3⟩ := ha1.cells
  have HA := Lib.hid ha1
  have HB := Lib.hid hb1
  have HU := Lib.hid hu
  have HS := Lib.hid hs
  have HC := Lib.hid (check_any r u _ (hu.keep hb1))
  clear ha1 hb1 hu hs
  cases hr : rightB r with
  | false =>
    have hi : checkI r = 1 := by unfold checkI; rw [hr]; rfl
    rw [hi] at HC
    clear hi
    go_enter Try.func7, Try.ntmps7
    go_upto_region 1 with fail
    generalize w.alloc (.cells (repA r u) 25) = w1 at *
    go_wp2_with (go_at_call 8; refine HC.out.mono ?_; rintro e w' ⟨rfl, hb'⟩)
    go_ret2
    exact .inr ⟨hr, rfl, HB.out.trans (hb'.mono HB.out.size)⟩
  | true =>
    have hi : checkI r = 0 := by unfold checkI; rw [hr]; rfl
    rw [hi] at HC
    have hrr := rightB_iff.1 hr
    have HRT := Lib.hid hr
    have HEN := Lib.hid (show encR r = encs (numsR r) from rfl)
    have HNR := Lib.hid (show numsR r = r.e.toNat :: pN r.p :: r.m.toNat :: r.ns.length :: r.ns.map Int.toNat from rfl)
    have HPO := Lib.hid hrr.pos
    have HSH := Lib.hid hrr.short
    have HSM := Lib.hid (numsR_small ⟨hr, HS.out⟩)
    have hx0 := hrr.e0
    have hx1 := hrr.e1
    have hm0 := hrr.m0
    have hm1 := hrr.m1
    clear hi hrr
    go_enter Try.func7, Try.ntmps7
    go_upto_region 1 with fail
    generalize hw1 : w.alloc (.cells (repA r u) 25) = w1 at *
    clear hw1
    go_wp2_with (go_at_call 8; refine HC.out.mono ?_; rintro e w2 ⟨rfl, hb2⟩)
    have HA2 := Lib.hid (HA.out.keep hb2)
    have HB2 := Lib.hid (HB.out.trans (hb2.mono HB.out.size))
    obtain ⟨A, c, rfl, hlen, hat⟩ := HU.out
    have HAT := Lib.hid hat
    generalize numsR r = L at *
    obtain ⟨e, p, m, ns⟩ := r
    simp only at *
    obtain ⟨E, rfl⟩ : ∃ E : Nat, e = (E : Int) := ⟨e.toNat, by omega⟩
    obtain ⟨M, rfl⟩ : ∃ M : Nat, m = (M : Int) := ⟨m.toNat, by omega⟩
    have HE := Lib.hid (show IntKind.u64.wrap (E : Int) = (E : Int) by rw [IntKind.wrap_u64]; omega)
    have HM := Lib.hid (show IntKind.u64.wrap (M : Int) = (M : Int) by rw [IntKind.wrap_u64]; omega)
    rw [Int.toNat_natCast, Int.toNat_natCast] at HNR
    generalize hnl : ns.length = n at *
    have HNL := Lib.hid hnl
    have HN := Lib.hid (show IntKind.u64.wrap (n : Int) = (n : Int) by rw [IntKind.wrap_u64]; have := HSH.out; omega)
    clear hb2 hat hnl c0 c1 c2 c3 hx0 hx1 hm0 hm1 hr HC
    have HDR := Lib.hid (show Below w2.heap.size w2 w2.drew from below_drewN (Below.refl _ _) 1)
    refine wp_region_N (S1 := fun W => Below w2.heap.size w2 W) (S2 := fun _ => True) (N := fun _ => false) (by kernel_rfl) ?_
    change wpAnyN _ _ _ _ _ _ _ 15 (Array.replicate 15 false) _ _
    refine wpAnyN_take false (i := 0) (v := .pointer (some ⟨w.heap.size, 0, none⟩)) rfl (by kernel_rfl) (by kernel_rfl) (by kernel_rfl) (fun _ _ _ h => h) (.inl ⟨by kernel_rfl, fun W hS => ?_⟩) ⟨HDR.out, fun h => by cases h⟩ ?_
    · simp [execOp, Act.eval, go_sem]
    refine wpAnyN_take false (i := 1) (v := .int .i64 E) rfl (by kernel_rfl) (by kernel_rfl) (by kernel_rfl) (fun _ _ _ h => h) (.inl ⟨by kernel_rfl, fun W hS => ?_⟩) ⟨HDR.out, fun h => by cases h⟩ ?_
    · simp [execOp, Act.eval, Act.put, go_sem, (show W.cell? ⟨w.heap.size, 0, none⟩ = some _ from (HA2.out.keep hS.1).cells.1)]
    refine wpAnyN_take false (i := 2) (v := .int .u64 E) rfl (by kernel_rfl) (by kernel_rfl) (by kernel_rfl) (fun _ _ _ h => h) (.inl ⟨by kernel_rfl, fun W hS => ?_⟩) ⟨HDR.out, fun h => by cases h⟩ ?_
    · simp [execOp, Act.eval, Act.put, go_sem, HE.out]
    refine wpAnyN_take false (i := 3) (v := .pointer (some ⟨w.heap.size, 1, none⟩)) rfl (by kernel_rfl) (by kernel_rfl) (by kernel_rfl) (fun _ _ _ h => h) (.inl ⟨by kernel_rfl, fun W hS => ?_⟩) ⟨HDR.out, fun h => by cases h⟩ ?_
    · simp [execOp, Act.eval, Act.put, go_sem]
    refine wpAnyN_take false (i := 4) (v := .bool p) rfl (by kernel_rfl) (by kernel_rfl) (by kernel_rfl) (fun _ _ _ h => h) (.inl ⟨by kernel_rfl, fun W hS => ?_⟩) ⟨HDR.out, fun h => by cases h⟩ ?_
    · simp [execOp, Act.eval, Act.put, go_sem, (show W.cell? ⟨w.heap.size, 1, none⟩ = some _ from (HA2.out.keep hS.1).cells.2.1)]
    refine wpAnyN_take false (i := 6) (v := .pointer (some ⟨w.heap.size, 2, none⟩)) rfl (by kernel_rfl) (by kernel_rfl) (by kernel_rfl) (fun _ _ _ h => h) (.inl ⟨by kernel_rfl, fun W hS => ?_⟩) ⟨HDR.out, fun h => by cases h⟩ ?_
    · simp [execOp, Act.eval, Act.put, go_sem]
    refine wpAnyN_take false (i := 7) (v := .int .i64 M) rfl (by kernel_rfl) (by kernel_rfl) (by kernel_rfl) (fun _ _ _ h => h) (.inl ⟨by kernel_rfl, fun W hS => ?_⟩) ⟨HDR.out, fun h => by cases h⟩ ?_
    · simp [execOp, Act.eval, Act.put, go_sem, (show W.cell? ⟨w.heap.size, 2, none⟩ = some _ from (HA2.out.keep hS.1).cells.2.2.1)]
    refine wpAnyN_take false (i := 8) (v := .int .u64 M) rfl (by kernel_rfl) (by kernel_rfl) (by kernel_rfl) (fun _ _ _ h => h) (.inl ⟨by kernel_rfl, fun W hS => ?_⟩) ⟨HDR.out, fun h => by cases h⟩ ?_
    · simp [execOp, Act.eval, Act.put, go_sem, HM.out]
    refine wpAnyN_take false (i := 9) (v := .pointer (some ⟨w.heap.size, 3, none⟩)) rfl (by kernel_rfl) (by kernel_rfl) (by kernel_rfl) (fun _ _ _ h => h) (.inl ⟨by kernel_rfl, fun W hS => ?_⟩) ⟨HDR.out, fun h => by cases h⟩ ?_
    · simp [execOp, Act.eval, Act.put, go_sem]
    refine wpAnyN_take false (i := 10) (v := .slice A n c) rfl (by kernel_rfl) (by kernel_rfl) (by kernel_rfl) (fun _ _ _ h => h) (.inl ⟨by kernel_rfl, fun W hS => ?_⟩) ⟨HDR.out, fun h => by cases h⟩ ?_
    · simp [execOp, Act.eval, Act.put, go_sem, (show W.cell? ⟨w.heap.size, 3, none⟩ = some _ from (HA2.out.keep hS.1).cells.2.2.2)]
    refine wpAnyN_take false (i := 11) (v := .int .i64 n) rfl (by kernel_rfl) (by kernel_rfl) (by kernel_rfl) (fun _ _ _ h => h) (.inl ⟨by kernel_rfl, fun W hS => ?_⟩) ⟨HDR.out, fun h => by cases h⟩ ?_
    · simp [execOp, Act.eval, Act.put, go_sem]
    refine wpAnyN_take false (i := 12) (v := .int .u64 n) rfl (by kernel_rfl) (by kernel_rfl) (by kernel_rfl) (fun _ _ _ h => h) (.inl ⟨by kernel_rfl, fun W hS => ?_⟩) ⟨HDR.out, fun h => by cases h⟩ ?_
    · simp [execOp, Act.eval, Act.put, go_sem, HN.out]
    refine wpAnyN_step (i := 5) (by kernel_rfl) rfl (by kernel_rfl) ?_
    intro K' hK
    try simp only [Act.put]
    go_simp
    refine (flag_any p _).mono ?_
    rintro e w' ⟨rfl, rfl⟩
    refine hK.out _ _ HDR.out (fun h => absurd h (by decide)) ?_
    refine wpAnyN_step (i := 13) (by kernel_rfl) rfl (by kernel_rfl) ?_
    intro K' hK
    try simp only [Act.put]
    go_simp
    have hlit : OwnK .u64 40 (w2.alloc (.cells #[.int .u64 E, .int .u64 (pN p), .int .u64 M, .int .u64 n] 40)).drew w.heap.size (.slice (some ⟨w2.heap.size, 0, none⟩) 4 4) [E, pN p, M, n] := lit_words w2 [E, pN p, M, n] w.heap.size HB2.out.size (by simp)
    have hwx : Below w2.heap.size w2 (w2.alloc (.cells #[.int .u64 E, .int .u64 (pN p), .int .u64 M, .int .u64 n] 40)).drew := ((Below.refl _ _).alloc (Nat.le_refl _) _).drew
    have HX := Lib.hid hwx
    refine hK.out _ _ HX.out (fun h => absurd h (by decide)) ?_
    refine wpAnyN_step (i := 14) (by kernel_rfl) rfl (by kernel_rfl) ?_
    intro K' hK
    try simp only [Act.put]
    go_simp
    refine hK.out _ _ HX.out (fun h => absurd h (by decide)) ?_
    refine wpAnyN_done (by kernel_rfl) ?_
    try simp only [Act.put]
    try go_simp
    have hb3 := HB2.out.trans (HX.out.mono HB2.out.size)
    have ha3 := HA2.out.keep HX.out
    obtain ⟨c0, c1, c2, c3⟩ := ha3.cells
    generalize hw3 : (w2.alloc (.cells #[.int .u64 E, .int .u64 (pN p), .int .u64 M, .int .u64 n] 40)).drew = w3 at *
    have HO3 := Lib.hid (show OwnK .u64 40 w3 w.heap.size (.slice (some ⟨w2.heap.size, 0, none⟩) 4 4) [E, pN p, M, n] from hlit)
    have HB3 := Lib.hid hb3
    clear hlit hwx hw3 hb3 ha3
    go_wp2_with fail
    clear c0 c1 c2 c3
    go_loopg [5, 7, 30] n (fun g s5 _ s30 wr => ∃ k : Nat, k ≤ n ∧ g = n - k ∧ s30 = .int .i64 k ∧ OwnK .u64 40 wr w.heap.size s5 (E :: pN p :: M :: n :: (ns.map Int.toNat).take k) ∧ Below w.heap.size w wr)
    case atStart => exact ⟨0, Nat.zero_le _, rfl, rfl, HO3.out, HB3.out⟩
    case round =>
      obtain ⟨k, hk, hg, rfl, hown, hbr⟩ := hrel
      have HG := Lib.hid hg
      have HO := Lib.hid hown
      have HBR := Lib.hid hbr
      have hsz := hbr.size
      clear hg hown hbr
      by_cases hlt : k < n
      · have hltz : (k : Int) < (n : Int) := by omega
        obtain ⟨b, off, rfl, hbl, hcell⟩ := HAT.out (by omega)
        obtain ⟨y, hy⟩ := exI_at (xs := ns) (k := k) (by have := HNL.out; omega)
        have hmem := List.mem_of_getElem? hy
        have h0 := HPO.out y hmem
        have h9 := HS.out y hmem
        obtain ⟨Y, rfl⟩ : ∃ Y : Nat, y = (Y : Int) := ⟨y.toNat, by omega⟩
        have hck := (HBR.out.cell (p := ⟨b, off + k, none⟩) hbl).trans (hcell k _ hy)
        have hyw : IntKind.u64.wrap (Y : Int) = (Y : Int) := by rw [IntKind.wrap_u64]; omega
        have HT := Lib.hid (show (ns.map Int.toNat).take (k + 1) = (ns.map Int.toNat).take k ++ [Y] by rw [List.take_add_one, List.getElem?_map, hy]; rfl)
        have HLN := Lib.hid (show ((ns.map Int.toNat).take k).length ≤ 20 by rw [List.length_take, List.length_map]; have := HSH.out; omega)
        clear hcell hy hmem h0 h9
        go_wp2_with (at_builtin; refine wpList_append_num rfl _ _ 42 .u64 40 rfl w.heap.size Try.underlying42 Try.infoU _ _ rfl (HO.out.alloc _) wr.heap.size 1 Y rfl ?hcell ?hlen2 ?hbase ?_)
        case hcell => exact (Boxed.new wr 40 (.int .u64 Y)).cell
        case hlen2 => have := HLN.out; simp only [List.length_cons]; omega
        case hbase => simp; omega
        intro v4 w4 hown4 hb4
        have HO4 := Lib.hid hown4
        have HB4 := Lib.hid ((HBR.out.alloc hsz _).trans hb4)
        clear hown4 hb4
        go_wp2_with fail
        go_roundg (n - (k + 1))
        case measure => have := HG.out; omega
        case rel =>
          refine ⟨k + 1, by omega, rfl, by go_num, ?_, HB4.out⟩
          rw [HT.out]
          exact HO4.out
      · have hltz : ¬ (k : Int) < (n : Int) := by omega
        have hkn : k = n := by omega
        have HF := Lib.hid (show OwnK .u64 40 wr w.heap.size u5 L by
          have h := HO.out
          rw [hkn, List.take_of_length_le (by rw [List.length_map]; have := HNL.out; omega), ← HNR.out] at h
          exact h)
        have HP := Lib.hid (put_any (.slice none 0 0) u5 [] L wr (BytesAt.nil _) (HF.out.words HSM.out) (by decide) (by rw [HNR.out]; simp only [List.length_cons, List.length_map]; have := HSH.out; have := HNL.out; omega))
        clear hkn
        go_wp2_with (go_at_call 16; refine HP.out.mono ?_; rintro e w5 ⟨v5, rfl, ho5, hb5⟩)
        go_ret2
        refine .inl ⟨HRT.out, v5, rfl, ?_, HBR.out.trans (hb5.mono hsz)⟩
        rw [HEN.out]
        exact ho5.weaken hsz
end Go.Proofs.Ytkkaekcjinopkaa
