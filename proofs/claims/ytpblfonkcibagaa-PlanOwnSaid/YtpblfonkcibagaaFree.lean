/-
  Windows, Room and Free of the program.
  Conditions: the slice reads as places; the numbers are small.
-/
import Derived.Test.YtpblfonkcibagaaRooms
set_option linter.unusedVariables false
namespace Go.Proofs.Ytpblfonkcibagaa
open Go.RowKit Go.Sort

set_option maxRecDepth 100000 in
set_option maxHeartbeats 2000000 in
theorem winP_any (f : Int) (m : Nat) (v : Value) (l : List Pl) (c : Int) (w : World) (h : PlsAt w v l) (hL : LightL l) (hm : m < 4294967296) (hc : hasC m c = true) :
    Calls Try.prog 30 #[planA f m v, .int .i64 c] w (RetB (.int .u64 (winN (pcsOf l) c)) w) := by
  have hl : l.length ≤ 1000 := by have := hL.len; omega
  have HWN := Lib.hid (fun w h => windows_any f m v l w h hl hL.ok hm)
  have HHC := Lib.hid (fun W => hasCore_any f m v c W hm)
  rw [hc] at HHC
  obtain ⟨C, rfl⟩ : ∃ C : Nat, c = (C : Int) := ⟨c.toNat, by have := hasC_range hc; omega⟩
  have hC : C < 16 := by have := hasC_range hc; omega
  have hCz : (C : Int) < 16 := by omega
  have hC0 : (0 : Int) ≤ (C : Int) := by omega
  have HE := Lib.hid (show winF m (pcsOf l) C = winN (pcsOf l) (C : Int) from if_pos (by rw [← hasC_nat hC]; exact hc))
  have HH := Lib.hid h
  unfold planA at HWN HHC
  obtain ⟨w1, P, hw1, hP, hPl, hb1, hbox⟩ := box_any w #[.int .i64 f, .int .u32 m, v] 25
  have HB1 := Lib.hid hb1
  have HBOX := Lib.hid hbox
  obtain ⟨r0, r1, r2⟩ := three_heads hbox
  generalize winN (pcsOf l) (C : Int) = Y at *
  generalize hq : pcsOf l = q at *
  clear h hL hm hc hb1 hbox hq
  unfold planA
  go_enter Try.func30, Try.ntmps30
  go_wp2_with fail
  refine (HHC.out _).mono ?_
  rintro e w2 ⟨rfl, hb2⟩
  have HB2 := Lib.hid (HB1.out.trans (hb2.mono HB1.out.size))
  obtain ⟨q0, q1, q2⟩ := three_heads (keep_block HBOX.out hb2)
  clear hb2 r0 r1 r2 hw1 hP
  go_wp2_with fail
  refine (HWN.out _ (HH.out.keep HB2.out)).mono ?_
  rintro e w3 ⟨ap, rfl, _, hb3⟩
  have HB3 := Lib.hid (HB2.out.trans (hb3.mono HB2.out.size))
  obtain ⟨wd, R4, hwd, hNd, hNdl, hbd, had⟩ := box_any w3 (arrU fun _ => 0) 68
  rw [arrU_zero] at hwd
  have HAD := Lib.hid had
  have HBD := Lib.hid (HB3.out.trans (hbd.mono HB3.out.size))
  have HR4 := Lib.hid (show w.heap.size ≤ R4 by have := HB3.out.size; omega)
  obtain ⟨w4, hw4⟩ : ∃ w4, wd.setRow R4 (arrU (winF m q)) = w4 := ⟨_, rfl⟩
  have HAD4 : Hid (ArrU w4 R4 (winF m q)) := by rw [← hw4]; exact setRow_heap _ _ _ _ _ _ HAD.out
  have HB4 : Hid (Below w.heap.size w w4) := by rw [← hw4]; exact below_row HBD.out HR4.out _
  have a1 : w4.cell? ⟨R4, C, none⟩ = some (.int .u64 Y) := by rw [← HE.out]; exact HAD4.out.cell hC
  clear hb3 hbd had q0 q1 q2
  go_wp2_with (refine wpList_store_row rfl _ _ _ rfl R4 (arrU (winF m q)) rfl rfl 68 (arrU fun _ => 0) HAD.out (Try.sizeAU _) (by rw [arrU_size, arrU_size]) (arrU_one _) ?_)
  go_ret
  exact ⟨rfl, HB4.out⟩

theorem run_index_arrI (g : Nat → Int) (w : World) : ∀ k : Nat, k < 16 → (Instr.index 65 (.agg (arrI g)) (.int .i64 (k : Int))).run Try.prog w = .ok (.int .i64 (g k)) w
  | 0, _ => by kernel_rfl
  | 1, _ => by kernel_rfl
  | 2, _ => by kernel_rfl
  | 3, _ => by kernel_rfl
  | 4, _ => by kernel_rfl
  | 5, _ => by kernel_rfl
  | 6, _ => by kernel_rfl
  | 7, _ => by kernel_rfl
  | 8, _ => by kernel_rfl
  | 9, _ => by kernel_rfl
  | 10, _ => by kernel_rfl
  | 11, _ => by kernel_rfl
  | 12, _ => by kernel_rfl
  | 13, _ => by kernel_rfl
  | 14, _ => by kernel_rfl
  | 15, _ => by kernel_rfl
  | k + 16, h => absurd h (by omega)

set_option maxRecDepth 100000 in
set_option maxHeartbeats 2000000 in
theorem room_any (f : Int) (m : Nat) (v : Value) (l : List Pl) (c : Int) (w : World) (h : PlsAt w v l) (hL : LightL l) (hS : Shares l) (hm : m < 4294967296) (hf : 0 ≤ f) (hf2 : f ≤ 64) :
    Calls Try.prog 27 #[planA f m v, .int .i64 c] w (RetB (.int .i64 (roomN f m l c)) w) := by
  have HRM := Lib.hid (fun w h => rooms_any f m v l w h hL hS hm hf hf2)
  have HHC := Lib.hid (fun W => hasCore_any f m v c W hm)
  have HH := Lib.hid h
  unfold planA at HRM HHC
  obtain ⟨w1, P, hw1, hP, hPl, hb1, hbox⟩ := box_any w #[.int .i64 f, .int .u32 m, v] 25
  have HB1 := Lib.hid hb1
  have HBOX := Lib.hid hbox
  obtain ⟨r0, r1, r2⟩ := three_heads hbox
  clear h hL hS hm hb1 hbox
  unfold planA
  cases hh : hasC m c with
  | false =>
    rw [hh] at HHC
    have HE := Lib.hid (show roomN f m l c = 0 by unfold roomN; rw [hh]; rfl)
    clear hh
    go_enter Try.func27, Try.ntmps27
    go_wp2_with fail
    refine (HHC.out _).mono ?_
    rintro e w2 ⟨rfl, hb2⟩
    have HB2 := Lib.hid (HB1.out.trans (hb2.mono HB1.out.size))
    clear hb2
    go_wp2_with fail
    go_ret
    exact ⟨ret_int HE.out.symm, HB2.out⟩
  | true =>
    rw [hh] at HHC
    obtain ⟨C, rfl⟩ : ∃ C : Nat, c = (C : Int) := ⟨c.toNat, by have := hasC_range hh; omega⟩
    have hC : C < 16 := by have := hasC_range hh; omega
    have hCz : (C : Int) < 16 := by omega
    have hC0 : (0 : Int) ≤ (C : Int) := by omega
    obtain ⟨g, hg⟩ : ∃ g : Nat → Int, (fun i : Nat => roomN f m l (i : Int)) = g := ⟨_, rfl⟩
    have HE := Lib.hid (show g C = roomN f m l (C : Int) by rw [← hg])
    rw [hg] at HRM
    have hidx := fun w => run_index_arrI g w C hC
    clear hh hg
    go_enter Try.func27, Try.ntmps27
    go_wp2_with fail
    refine (HHC.out _).mono ?_
    rintro e w2 ⟨rfl, hb2⟩
    have HB2 := Lib.hid (HB1.out.trans (hb2.mono HB1.out.size))
    obtain ⟨q0, q1, q2⟩ := three_heads (keep_block HBOX.out hb2)
    clear hb2 r0 r1 r2 hw1 hP
    go_wp2_with fail
    refine (HRM.out _ (HH.out.keep HB2.out)).mono ?_
    rintro e w3 ⟨rfl, hb3⟩
    have HB3 := Lib.hid (HB2.out.trans (hb3.mono HB2.out.size))
    clear hb3 q0 q1 q2
    go_wp2_with fail
    go_ret
    exact ⟨ret_int HE.out, HB3.out⟩

set_option maxRecDepth 100000 in
set_option maxHeartbeats 2000000 in
theorem free_any (f : Int) (m : Nat) (v : Value) (l : List Pl) (w : World) (h : PlsAt w v l) (hL : LightL l) (hS : Shares l) (hm : m < 4294967296) (hf : 0 ≤ f) (hf2 : f ≤ 64) :
    Calls Try.prog 25 #[planA f m v] w (RetB (.int .i64 (freeT f m l 16)) w) := by
  have HRM := Lib.hid (fun w h => rooms_any f m v l w h hL hS hm hf hf2)
  have HH := Lib.hid h
  have HFB := Lib.hid (fun k => free_bound f m l hL hS hf hf2 k)
  have HRB := Lib.hid (fun c => room_bound f m l hL hS hf hf2 c)
  unfold planA at HRM
  obtain ⟨w1, P, hw1, hP, hPl, hb1, hbox⟩ := box_any w #[.int .i64 f, .int .u32 m, v] 25
  have HB1 := Lib.hid hb1
  obtain ⟨r0, r1, r2⟩ := three_heads hbox
  obtain ⟨g, hg⟩ : ∃ g : Nat → Int, (fun i : Nat => roomN f m l (i : Int)) = g := ⟨_, rfl⟩
  have HE := Lib.hid (show ∀ i : Nat, roomN f m l (i : Int) = g i from fun i => by rw [← hg])
  rw [hg] at HRM
  clear h hL hS hm hb1 hbox hg
  unfold planA
  go_enter Try.func25, Try.ntmps25
  go_wp2_with fail
  refine (HRM.out _ (HH.out.keep HB1.out)).mono ?_
  rintro e w2 ⟨rfl, hb2⟩
  have HB2 := Lib.hid (HB1.out.trans (hb2.mono HB1.out.size))
  clear hb2 r0 r1 r2 hw1 hP
  go_wp2_with fail
  go_loopg [3, 5, 8] 16 (fun gg s3 _ s8 wr => ∃ (k : Nat) (q : Int), k ≤ 16 ∧ gg = 16 - k ∧ s8 = .int .i64 k ∧ s3 = .int .i64 q ∧ q = freeT f m l k ∧ w2 = wr)
  case atStart => exact ⟨0, 0, Nat.zero_le _, by omega, rfl, rfl, rfl, rfl⟩
  case round =>
    obtain ⟨k, q, hk, hgg, rfl, rfl, hq, rfl⟩ := hrel
    have HQ := Lib.hid hq
    have HG := Lib.hid hgg
    have hqb := HFB.out k
    rw [← hq] at hqb
    obtain ⟨hq1, hq2⟩ := hqb
    clear hgg hq
    by_cases hlt : k < 16
    · have hltz : (k : Int) < 16 := by omega
      have hk0 : (0 : Int) ≤ (k : Int) := by omega
      have hrb := HRB.out (k : Int)
      have HS := Lib.hid (show freeT f m l (k + 1) = freeT f m l k + roomN f m l (k : Int) from rfl)
      rw [← HQ.out, HE.out k] at HS
      rw [HE.out k] at hrb
      have hidx := fun w => run_index_arrI g w k hlt
      generalize g k = rm at *
      obtain ⟨hr1, hr2⟩ := hrb
      have k1 : -200000 ≤ q := by omega
      have k2 : q ≤ 200000 := by omega
      clear hq1 hq2
      go_wp2_with fail
      go_roundg (16 - (k + 1))
      case measure => have := HG.out; omega
      case rel => exact ⟨k + 1, q + rm, by omega, rfl, by go_num, rfl, HS.out.symm, rfl⟩
    · have hk16' : k = 16 := by omega
      subst hk16'
      have HE2 : Hid (q = freeT f m l 16) := HQ.out
      clear hq1 hq2
      go_wp2
      go_ret
      exact ⟨ret_int HE2.out, HB2.out⟩
end Go.Proofs.Ytpblfonkcibagaa
