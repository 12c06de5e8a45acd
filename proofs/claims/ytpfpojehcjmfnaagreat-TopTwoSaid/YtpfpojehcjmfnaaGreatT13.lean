/-
  slices.BinarySearchFunc over places, by their units.
  Conditions: the slice reads as places; where the place belongs is told.
-/
import Derived.Test.YtpfpojehcjmfnaaGreatT10
import Derived.Test.YtpfpojehcjmfnaaGreatT06
import Derived.Test.YtpfpojehcjmfnaaGreatT07
import Derived.Test.YtpfpojehcjmfnaaGreatT05
import Derived.Test.YtpfpojehcjmfnaaGreatT12
import Derived.Test.YtpfpojehcjmfnaaGreatT03
import Derived.Test.YtpfpojehcjmfnaaGreatT11

/-
  Check of the document.
  Conditions: the slice reads as wants.
-/
set_option linter.unusedVariables false
namespace Go.Proofs.YtpfpojehcjmfnaaGreat
open Go.RowKit

end Go.Proofs.YtpfpojehcjmfnaaGreat

/-
  Where a plan's place belongs; append of pieces onto an empty row.
  Conditions: the plan is right.
-/
set_option linter.unusedVariables false
set_option linter.unusedSimpArgs false
namespace Go.Proofs.YtpfpojehcjmfnaaGreat
open Go.RowKit

/-- append in a region that draws, by its run. -/
theorem step_append_run16 {ops : Array Oper} {o : Oper} {a : Act} {w : World} {K : Act → World → Prop} {Q : Exit → Act → World → Prop} {E : Prop}
    (hg : o.guard = none) (d x : Operand) (dT sT : TypeId) (hop : o.op = Op.call { callee := Callee.builtin Builtin.append, args := #[d, x], argTypes := #[dT, sT] })
    (v u : Value) (hd : a.eval d = v) (hx : a.eval x = u) {v' : Value} {w' : World} (hr : (Builtin.append_ #[dT, sT] o.type #[v, u]).run Tryz.prog w = .ok v' w') (hK : K (a.put o.dst v') w') :
    if Region.wanted o (yielded ops a.tmps) = true then Oper.wp Tryz.prog o a w K Q else E := by
  have hw : Region.wanted o (yielded ops a.tmps) = true := by simp [Region.wanted, hg]
  rw [if_pos hw]
  unfold Oper.wp
  simp [execOp, hop, resolve, invoke, builtin, hd, hx, hr, Result.andThen]
  exact hK
theorem step_store_row16 {ops : Array Oper} {o : Oper} {a : Act} {w : World} {K : Act → World → Prop} {Q : Exit → Act → World → Prop} {E : Prop}
    (hg : o.guard = none) (ty : TypeId) (x y : Operand) (ho : o.op = .store ty x y)
    (g : Nat) (cells : Array Value) (hx : a.eval x = .pointer (some ⟨g, 0, none⟩)) (hy : a.eval y = .agg cells)
    (t : TypeId) (old : Array Value) (hgg : w.heap[g]? = some (.cells old t (0, 0))) (hi : (Tryz.prog.info? ty).map (·.size) = some cells.size)
    (hold : old.size = cells.size) (h1 : cells.all (·.oneCell') = true) (hK : K (a.put o.dst undef) (w.setRow g cells)) :
    if Region.wanted o (yielded ops a.tmps) = true then Oper.wp Tryz.prog o a w K Q else E := by
  have hw : Region.wanted o (yielded ops a.tmps) = true := by simp [Region.wanted, hg]
  rw [if_pos hw]
  exact wp_store_row ty x y ho g cells hx hy t old hgg hi hold h1 hK
end Go.Proofs.YtpfpojehcjmfnaaGreat

/-
  Why wants are not placed, of program and document.
  Conditions: the slices read as places, as wants; the numbers are of their kinds.
-/
set_option linter.unusedVariables false
set_option linter.unusedSimpArgs false
namespace Go.Proofs.YtpfpojehcjmfnaaGreat
open Go.RowKit

/-- Why wants are not placed, as an answer. -/
def RetWhy (f : Int) (m : Nat) (l : List Pl) (ws : List Sp) (w : World) (e : Ending) (w' : World) : Prop := ∃ E : Int, e = .returned (.int .i64 E) ∧ Why f m l ws E ∧ Below w.heap.size w w'
theorem anyB_take {l : List Pl} {ws : List Sp} {k : Nat} {y : Sp} (h : ws[k]? = some y) : anyB l (ws.take (k + 1)) = (anyB l (ws.take k) || (findU l y.1).isSome) := by
  unfold anyB
  rw [List.take_add_one, h, Option.toList_some, List.any_append]
  simp
theorem anyB_hit {l : List Pl} {ws : List Sp} {k : Nat} {y : Sp} (h : ws[k]? = some y) (hf : (findU l y.1).isSome = true) : anyB l ws = true := List.any_eq_true.2 ⟨y, List.mem_of_getElem? h, hf⟩

set_option maxRecDepth 100000 in
set_option maxHeartbeats 4000000 in
theorem checkF_any (f : Int) (m : Nat) (v : Value) (l : List Pl) (vw : Value) (ws : List Sp) (w : World) (h : PlsAt w v l) (hL : LightL l) (hw : SpansAt w vw ws) (hi : IntsS ws) (hm : m < 4294967296) :
    Calls Tryz.prog 77 #[planA f m v, vw] w (RetWhy f m l ws w) := by
  have HPC := Lib.hid (fun w h => planCheck_any f m v l w h hL.wide hm)
  have HOC := Lib.hid (fun w h => check_any f vw ws w h hi)
  have HFI := Lib.hid (fun u w h => find_any f m v l u w h (by have := hL.len; omega) (fun x hx => (hL.ok x hx).2))
  have HH := Lib.hid h
  have HW := Lib.hid hw
  unfold planA at HPC HFI
  unfold RetFind at HFI
  obtain ⟨w1, P, hw1, hP, hPl, hb1, hbox⟩ := box_any w #[.int .i64 f, .int .u32 m, v] 26
  have HB1 := Lib.hid hb1
  have HBOX := Lib.hid hbox
  obtain ⟨r0, r1, r2⟩ := three_heads hbox
  clear h hL hw hi hb1 hbox
  unfold planA
  go_enter Tryz.func77, Tryz.ntmps77
  go_wp2_with fail
  refine (HPC.out _ (HH.out.keep HB1.out)).mono ?_
  rintro e w2 ⟨E1, rfl, hE1, hiff, hb2⟩
  have HB2 := Lib.hid (HB1.out.trans (hb2.mono HB1.out.size))
  have HBX2 := Lib.hid (keep_block HBOX.out hb2)
  clear hb2 r0 r1 r2 hw1 hP
  rcases hE1 with rfl | rfl
  · have HR := Lib.hid (hiff.1 rfl)
    obtain ⟨r0, r1, r2⟩ := three_heads HBX2.out
    have HOC2 := Lib.hid (HOC.out _ (HW.out.keep HB2.out))
    obtain ⟨E2, hE2⟩ : ∃ E2, chkT f ws = E2 := ⟨_, rfl⟩
    rw [hE2] at HOC2
    have HE2 := Lib.hid hE2
    clear hiff hE2 HOC
    go_wp2_with fail
    refine HOC2.out.mono ?_
    rintro e w3 ⟨rfl, hb3⟩
    have HB3 := Lib.hid (HB2.out.trans (hb3.mono HB2.out.size))
    have HBX3 := Lib.hid (keep_block HBX2.out hb3)
    clear hb3 r0 r1 r2
    by_cases he : E2 = 0
    · subst he
      obtain ⟨A, c, rfl, hc1, hc3, hc2, hat⟩ := HW.out
      have HAT := Lib.hid hat
      obtain ⟨n, hn⟩ : ∃ n, ws.length = n := ⟨_, rfl⟩
      rw [hn] at HW HAT hc1 hc3 ⊢
      have HN := Lib.hid hn
      clear hat hn
      go_wp2_with fail
      go_loopg [8, 9, 10, 25] n (fun gg _ _ _ s25 wr => ∃ k : Nat, k ≤ n ∧ gg = n - k ∧ s25 = .int .i64 k ∧ Hid (anyB l (ws.take k) = false) ∧ Below w3.heap.size w3 wr)
      case atStart => exact ⟨0, Nat.zero_le _, by omega, rfl, rfl, Below.refl _ _⟩
      case round =>
        obtain ⟨k, hk, hg, rfl, HLO, hbw⟩ := hrel
        have HG := Lib.hid hg
        have HBW := Lib.hid hbw
        have HB := Lib.hid (HB3.out.trans (hbw.mono HB3.out.size))
        by_cases hlt : k < n
        · have hltz : (k : Int) < (n : Int) := by omega
          have hk0 : (0 : Int) ≤ (k : Int) := by omega
          obtain ⟨y, hy⟩ := ex_at (xs := ws) (k := k) (by rw [HN.out]; exact hlt)
          obtain ⟨b, off, hA, hbl, hcell⟩ := HAT.out (by omega)
          subst hA
          obtain ⟨c1, c2⟩ := (hcell k y hy).keep HB.out hbl
          have HY := Lib.hid hy
          obtain ⟨w4, N, hw4, hN, hNl, hb4, hnb⟩ := box_any wr #[.int .i64 y.1, .int .i64 y.2] 52
          have HB4 := Lib.hid (HB.out.trans (hb4.mono HB.out.size))
          have HBW4 := Lib.hid (HBW.out.trans (hb4.mono HBW.out.size))
          obtain ⟨n0, n1⟩ := two_heads hnb
          obtain ⟨r0, r1, r2⟩ := three_heads (keep_block (keep_block HBX3.out hbw) hb4)
          have HFY := Lib.hid (HFI.out y.1 _ (HH.out.keep HB4.out))
          obtain ⟨o, ho⟩ : ∃ o, findU l y.1 = o := ⟨_, rfl⟩
          rw [ho] at HFY
          have HO := Lib.hid ho
          obtain ⟨x, hx⟩ : ∃ x, o.getD zeroPl = x := ⟨_, rfl⟩
          obtain ⟨q, hq⟩ : ∃ q, o.isSome = q := ⟨_, rfl⟩
          rw [hx, hq] at HFY
          have HQ := Lib.hid hq
          clear hbw hg hcell hy hb4 hnb ho hx hq
          cases q with
          | false =>
            have HLON : Hid (anyB l (ws.take (k + 1)) = false) := Lib.hid (by rw [anyB_take HY.out, HLO, HO.out, HQ.out]; rfl)
            go_wp2_with fail
            refine HFY.out.mono ?_
            rintro e w5 ⟨v5, rfl, hps, hb5⟩
            have HB5 := Lib.hid (HBW4.out.trans (hb5.mono HBW4.out.size))
            obtain ⟨A5, d5, rfl⟩ := hps.form
            have hs5 := HB5.out.size
            unfold plA
            obtain ⟨w6, M, hw6, hM, hMl, hb6, hmb⟩ := box_any w5 #[.int .i64 x.u, .int .i64 x.s, .int .i64 x.c, .slice A5 x.ps.length d5] 48
            have HB6 := Lib.hid (HB5.out.trans (hb6.mono HB5.out.size))
            clear hps hb5 hb6 hmb r0 r1 r2 n0 n1 c1 c2 hw4 hN
            go_wp2_with fail
            go_roundg (n - (k + 1))
            case measure => have := HG.out; omega
            case rel => exact ⟨k + 1, by omega, rfl, by go_num, HLON, HB6.out⟩
          | true =>
            have HW11 : Hid (Why f m l ws 11) := Lib.hid (.inr (.inr (.inl ⟨HR.out, HE2.out, anyB_hit HY.out (by rw [HO.out]; exact HQ.out), rfl⟩)))
            go_wp2_with fail
            refine HFY.out.mono ?_
            rintro e w5 ⟨v5, rfl, hps, hb5⟩
            have HB5 := Lib.hid (HB4.out.trans (hb5.mono HB4.out.size))
            obtain ⟨A5, d5, rfl⟩ := hps.form
            unfold plA
            obtain ⟨w6, M, hw6, hM, hMl, hb6, hmb⟩ := box_any w5 #[.int .i64 x.u, .int .i64 x.s, .int .i64 x.c, .slice A5 x.ps.length d5] 48
            have HB6 := Lib.hid (HB5.out.trans (hb6.mono HB5.out.size))
            clear hps hb5 hb6 hmb r0 r1 r2 n0 n1 c1 c2 hw4 hN
            go_wp2_with fail
            go_ret
            exact ⟨11, rfl, HW11.out, HB6.out⟩
        · have hltz : ¬ (k : Int) < (n : Int) := by omega
          have HW0 : Hid (Why f m l ws 0) := Lib.hid (.inr (.inr (.inr ⟨HR.out, HE2.out, by rw [List.take_of_length_le (by have := HN.out; omega)] at HLO; exact HLO, rfl⟩)))
          clear hbw hg
          go_wp2_with fail
          go_ret
          exact ⟨0, rfl, HW0.out, HB.out⟩
    · have HWE : Hid (Why f m l ws E2) := Lib.hid (.inr (.inl ⟨HR.out, by rw [HE2.out]; exact he, HE2.out.symm⟩))
      have hb0 : (E2 != 0) = true := by simpa using he
      clear he
      go_wp2_with fail
      go_ret
      exact ⟨E2, rfl, HWE.out, HB3.out⟩
  · have HW30 : Hid (Why f m l ws 30) := Lib.hid (.inl ⟨fun h => by have := hiff.2 h; omega, rfl⟩)
    clear hiff
    go_wp2_with fail
    go_ret
    exact ⟨30, rfl, HW30.out, HB2.out⟩
end Go.Proofs.YtpfpojehcjmfnaaGreat

/-
  Windows, Room and Free of the program.
  Conditions: the slice reads as places; the numbers are small.
-/
set_option linter.unusedVariables false
namespace Go.Proofs.YtpfpojehcjmfnaaGreat
open Go.RowKit Go.Sort

theorem run_index_arrI (g : Nat → Int) (w : World) : ∀ k : Nat, k < 16 → (Instr.index 93 (.agg (arrI g)) (.int .i64 (k : Int))).run Tryz.prog w = .ok (.int .i64 (g k)) w
  | 0, _ => by kernel_rfl
  | 1, _ => by kernel_rfl
  | 2, _ => by kernel_rfl
  | 3, _ => by kernel_rfl
  | 4, _ => by kernel_rfl
  | 5, _ => by kernel_rfl
  | 6, _ => by kernel_rfl
  | 7, _ => by kernel_rfl
  | 8, _ => by kernel_rfl
  | 9, _ => by kernel_rfl
  | 10, _ => by kernel_rfl
  | 11, _ => by kernel_rfl
  | 12, _ => by kernel_rfl
  | 13, _ => by kernel_rfl
  | 14, _ => by kernel_rfl
  | 15, _ => by kernel_rfl
  | k + 16, h => absurd h (by omega)

set_option maxRecDepth 100000 in
set_option maxHeartbeats 2000000 in
theorem room_any (f : Int) (m : Nat) (v : Value) (l : List Pl) (c : Int) (w : World) (h : PlsAt w v l) (hL : LightL l) (hS : Shares l) (hm : m < 4294967296) (hf : 0 ≤ f) (hf2 : f ≤ 64) :
    Calls Tryz.prog 105 #[planA f m v, .int .i64 c] w (RetB (.int .i64 (roomN f m l c)) w) := by
  have HRM := Lib.hid (fun w h => rooms_any f m v l w h hL hS hm hf hf2)
  have HHC := Lib.hid (fun W => hasCore_any f m v c W hm)
  have HH := Lib.hid h
  unfold planA at HRM HHC
  obtain ⟨w1, P, hw1, hP, hPl, hb1, hbox⟩ := box_any w #[.int .i64 f, .int .u32 m, v] 26
  have HB1 := Lib.hid hb1
  have HBOX := Lib.hid hbox
  obtain ⟨r0, r1, r2⟩ := three_heads hbox
  clear h hL hS hm hb1 hbox
  unfold planA
  cases hh : hasC m c with
  | false =>
    rw [hh] at HHC
    have HE := Lib.hid (show roomN f m l c = 0 by unfold roomN; rw [hh]; rfl)
    clear hh
    go_enter Tryz.func105, Tryz.ntmps105
    go_wp2_with fail
    refine (HHC.out _).mono ?_
    rintro e w2 ⟨rfl, hb2⟩
    have HB2 := Lib.hid (HB1.out.trans (hb2.mono HB1.out.size))
    clear hb2
    go_wp2_with fail
    go_ret
    exact ⟨ret_int HE.out.symm, HB2.out⟩
  | true =>
    rw [hh] at HHC
    obtain ⟨C, rfl⟩ : ∃ C : Nat, c = (C : Int) := ⟨c.toNat, by have := hasC_range hh; omega⟩
    have hC : C < 16 := by have := hasC_range hh; omega
    have hCz : (C : Int) < 16 := by omega
    have hC0 : (0 : Int) ≤ (C : Int) := by omega
    obtain ⟨g, hg⟩ : ∃ g : Nat → Int, (fun i : Nat => roomN f m l (i : Int)) = g := ⟨_, rfl⟩
    have HE := Lib.hid (show g C = roomN f m l (C : Int) by rw [← hg])
    rw [hg] at HRM
    have hidx := fun w => run_index_arrI g w C hC
    clear hh hg
    go_enter Tryz.func105, Tryz.ntmps105
    go_wp2_with fail
    refine (HHC.out _).mono ?_
    rintro e w2 ⟨rfl, hb2⟩
    have HB2 := Lib.hid (HB1.out.trans (hb2.mono HB1.out.size))
    obtain ⟨q0, q1, q2⟩ := three_heads (keep_block HBOX.out hb2)
    clear hb2 r0 r1 r2 hw1 hP
    go_wp2_with fail
    refine (HRM.out _ (HH.out.keep HB2.out)).mono ?_
    rintro e w3 ⟨rfl, hb3⟩
    have HB3 := Lib.hid (HB2.out.trans (hb3.mono HB2.out.size))
    clear hb3 q0 q1 q2
    go_wp2_with fail
    go_ret
    exact ⟨ret_int HE.out, HB3.out⟩

set_option maxRecDepth 100000 in
set_option maxHeartbeats 2000000 in
theorem free_any (f : Int) (m : Nat) (v : Value) (l : List Pl) (w : World) (h : PlsAt w v l) (hL : LightL l) (hS : Shares l) (hm : m < 4294967296) (hf : 0 ≤ f) (hf2 : f ≤ 64) :
    Calls Tryz.prog 28 #[planA f m v] w (RetB (.int .i64 (freeT f m l 16)) w) := by
  have HRM := Lib.hid (fun w h => rooms_any f m v l w h hL hS hm hf hf2)
  have HH := Lib.hid h
  have HFB := Lib.hid (fun k => free_bound f m l hL hS hf hf2 k)
  have HRB := Lib.hid (fun c => room_bound f m l hL hS hf hf2 c)
  unfold planA at HRM
  obtain ⟨w1, P, hw1, hP, hPl, hb1, hbox⟩ := box_any w #[.int .i64 f, .int .u32 m, v] 26
  have HB1 := Lib.hid hb1
  obtain ⟨r0, r1, r2⟩ := three_heads hbox
  obtain ⟨g, hg⟩ : ∃ g : Nat → Int, (fun i : Nat => roomN f m l (i : Int)) = g := ⟨_, rfl⟩
  have HE := Lib.hid (show ∀ i : Nat, roomN f m l (i : Int) = g i from fun i => by rw [← hg])
  rw [hg] at HRM
  clear h hL hS hm hb1 hbox hg
  unfold planA
  go_enter Tryz.func28, Tryz.ntmps28
  go_wp2_with fail
  refine (HRM.out _ (HH.out.keep HB1.out)).mono ?_
  rintro e w2 ⟨rfl, hb2⟩
  have HB2 := Lib.hid (HB1.out.trans (hb2.mono HB1.out.size))
  clear hb2 r0 r1 r2 hw1 hP
  go_wp2_with fail
  go_loopg [3, 5, 8] 16 (fun gg s3 _ s8 wr => ∃ (k : Nat) (q : Int), k ≤ 16 ∧ gg = 16 - k ∧ s8 = .int .i64 k ∧ s3 = .int .i64 q ∧ q = freeT f m l k ∧ w2 = wr)
  case atStart => exact ⟨0, 0, Nat.zero_le _, by omega, rfl, rfl, rfl, rfl⟩
  case round =>
    obtain ⟨k, q, hk, hgg, rfl, rfl, hq, rfl⟩ := hrel
    have HQ := Lib.hid hq
    have HG := Lib.hid hgg
    have hqb := HFB.out k
    rw [← hq] at hqb
    obtain ⟨hq1, hq2⟩ := hqb
    clear hgg hq
    by_cases hlt : k < 16
    · have hltz : (k : Int) < 16 := by omega
      have hk0 : (0 : Int) ≤ (k : Int) := by omega
      have hrb := HRB.out (k : Int)
      have HS := Lib.hid (show freeT f m l (k + 1) = freeT f m l k + roomN f m l (k : Int) from rfl)
      rw [← HQ.out, HE.out k] at HS
      rw [HE.out k] at hrb
      have hidx := fun w => run_index_arrI g w k hlt
      generalize g k = rm at *
      obtain ⟨hr1, hr2⟩ := hrb
      have k1 : -400000 ≤ q := by omega
      have k2 : q ≤ 200000 := by omega
      clear hq1 hq2
      go_wp2_with fail
      go_roundg (16 - (k + 1))
      case measure => have := HG.out; omega
      case rel => exact ⟨k + 1, q + rm, by omega, rfl, by go_num, rfl, HS.out.symm, rfl⟩
    · have hk16' : k = 16 := by omega
      subst hk16'
      have HE2 : Hid (q = freeT f m l 16) := HQ.out
      clear hq1 hq2
      go_wp2
      go_ret
      exact ⟨ret_int HE2.out, HB2.out⟩
end Go.Proofs.YtpfpojehcjmfnaaGreat

/-
  Room of the document.
  Conditions: the slice reads as places; the numbers are small.
-/
set_option linter.unusedVariables false
namespace Go.Proofs.YtpfpojehcjmfnaaGreat
open Go.RowKit Go.Sort

end Go.Proofs.YtpfpojehcjmfnaaGreat

/-
  The first core that has room, of program and document.
  Conditions: the plan is right; the share is 1 at least.
-/
set_option linter.unusedVariables false
set_option linter.unusedSimpArgs false
namespace Go.Proofs.YtpfpojehcjmfnaaGreat
open Go.RowKit

theorem cntT_inj (m : Nat) {a b : Nat} (ha : m.testBit a = true) (hb : m.testBit b = true) (h : cntT m a = cntT m b) : a = b := by
  rcases Nat.lt_trichotomy a b with h1 | h1 | h1
  · have := cntT_lt m h1 ha; omega
  · exact h1
  · have := cntT_lt m h1 hb; omega
/-- The core that first names. -/
def coreV (o : Option Nat) : Int := ((o.getD 0 : Nat) : Int)
set_option maxRecDepth 100000 in
set_option maxHeartbeats 4000000 in
theorem first_any (f : Int) (m : Nat) (v : Value) (l : List Pl) (s : Int) (w : World) (h : PlsAt w v l) (hL : LightL l) (hr : Right f m l) (hs : 1 ≤ s) :
    Calls Tryz.prog 80 #[planA f m v, .int .i64 s] w (RetB (.tuple #[.int .i64 (coreV (firstR f m l s)), .bool (firstR f m l s).isSome]) w) := by
  have hm := hr.m16
  have hf := hr.f2
  have hf2 := hr.f64
  have hSh := shares_of hr.place hf2
  have HCO := Lib.hid (fun w => cores_any f m v w (by omega))
  rw [ticks_top hm] at HCO
  have HRM := Lib.hid (fun c w h => room_any f m v l c w h hL hSh (by omega) (by omega) hf2)
  have HRB := Lib.hid (fun c => room_bound f m l hL hSh (by omega) hf2 c)
  have HF := Lib.hid (fun c => @firstR_some f m l s c)
  have HF0 := Lib.hid (@firstR_none f m l s)
  have HIF := Lib.hid (fun c => @roomB_iff f m l s c)
  have HNO := Lib.hid (fun c => @roomB_no f m l s c)
  have HH := Lib.hid h
  unfold planA at HCO HRM
  obtain ⟨w1, P, hw1, hP, hPl, hb1, hbox⟩ := box_any w #[.int .i64 f, .int .u32 m, v] 26
  have HB1 := Lib.hid hb1
  have HBOX := Lib.hid hbox
  obtain ⟨r0, r1, r2⟩ := three_heads hbox
  obtain ⟨n, hn⟩ : ∃ n, (ticksI m 16).length = n := ⟨_, rfl⟩
  have HN := Lib.hid hn
  generalize firstR f m l s = o at *
  clear h hL hr hm hf hf2 hSh hb1 hbox hn
  unfold planA
  go_enter Tryz.func80, Tryz.ntmps80
  go_wp2_with fail
  refine (HCO.out _).mono ?_
  rintro e w2 ⟨v2, rfl, hi2, hb2⟩
  have HB2 := Lib.hid (HB1.out.trans (hb2.mono HB1.out.size))
  have HB12 := Lib.hid hb2
  obtain ⟨A2, c2, rfl, hl2, hat2⟩ := hi2
  rw [HN.out] at hat2 hl2 ⊢
  have HAT := Lib.hid hat2
  clear hb2 hat2 r0 r1 r2 hw1 hP
  go_wp2_with fail
  go_loopg [7, 11] n (fun gg _ s11 wr => ∃ k : Nat, k ≤ n ∧ gg = n - k ∧ s11 = .int .i64 k ∧ Hid (∀ j, j < 16 → m.testBit j = true → cntT m j < k → roomN f m l (j : Int) < s) ∧ Below w2.heap.size w2 wr)
  case atStart => exact ⟨0, Nat.zero_le _, by omega, rfl, fun j _ _ h => absurd h (Nat.not_lt_zero _), Below.refl _ _⟩
  case round =>
    obtain ⟨k, hk, hg, rfl, HLO, hbw⟩ := hrel
    have HG := Lib.hid hg
    have HBW := Lib.hid hbw
    have HB := Lib.hid (HB2.out.trans (hbw.mono HB2.out.size))
    obtain ⟨r0, r1, r2⟩ := three_heads (keep_block (keep_block HBOX.out HB12.out) hbw)
    by_cases hlt : k < n
    · have hltz : (k : Int) < (n : Int) := by omega
      have hk0 : (0 : Int) ≤ (k : Int) := by omega
      obtain ⟨q, hq⟩ := exP_at (xs := ticksI m 16) (k := k) (by rw [HN.out]; exact hlt)
      obtain ⟨C, rfl, hC, hCb, hcnt⟩ := ticks16 hq
      obtain ⟨bc, oc, hAd, hbcl, hcc⟩ := HAT.out (by omega)
      subst hAd
      have cc0 : wr.cell? ⟨bc, oc + k, none⟩ = some (.int .i64 (C : Int)) := (hbw.cell (p := ⟨bc, oc + k, none⟩) hbcl).trans (hcc k _ hq)
      have HRC := Lib.hid (fun w h => HRM.out (C : Int) w h)
      have HC16 := Lib.hid hC
      have HCB := Lib.hid hCb
      have HCNT := Lib.hid hcnt
      have HRE : Hid (∃ r, roomN f m l (C : Int) = r) := Lib.hid ⟨_, rfl⟩
      obtain ⟨r, hre⟩ := HRE.out
      rw [hre] at HRC
      have HE := Lib.hid hre
      clear hbw hg hq hcc hre hC hCb hcnt HRE
      by_cases hge : s ≤ r
      · have hged : decide (s ≤ r) = true := decide_eq_true hge
        have HO : Hid (o = some C) := Lib.hid ((HF.out _).2 ⟨HC16.out, (HIF.out C).2 ⟨HCB.out, by rw [HE.out]; exact hge⟩, fun j hj => (HNO.out j).2 fun hb => HLO j (by have := HC16.out; omega) hb (by
          have h1 := cntT_lt m hj hb
          have h2 := HCNT.out
          omega)⟩)
        have ho := HO.out
        subst ho
        go_wp2_with fail
        refine (HRC.out _ (HH.out.keep HB.out)).mono ?_
        rintro e w3 ⟨rfl, hb3⟩
        have HB3 := Lib.hid (HB.out.trans (hb3.mono HB.out.size))
        clear hb3
        go_wp2_with fail
        go_ret2
        exact ⟨rfl, HB3.out⟩
      · have hged : decide (s ≤ r) = false := decide_eq_false hge
        go_wp2_with fail
        refine (HRC.out _ (HH.out.keep HB.out)).mono ?_
        rintro e w3 ⟨rfl, hb3⟩
        have HB3 := Lib.hid (HBW.out.trans (hb3.mono HBW.out.size))
        have HLON : Hid (∀ j, j < 16 → m.testBit j = true → cntT m j < k + 1 → roomN f m l (j : Int) < s) := fun j hj hb hc => by
          by_cases e : cntT m j < k
          · exact HLO j hj hb e
          · have : j = C := cntT_inj m hb HCB.out (by have := HCNT.out; omega)
            subst this
            rw [HE.out]
            omega
        clear hb3
        go_wp2_with fail
        go_roundg (n - (k + 1))
        case measure => have := HG.out; omega
        case rel => exact ⟨k + 1, by omega, rfl, by go_num, HLON, HB3.out⟩
    · have hltz : ¬ (k : Int) < (n : Int) := by omega
      have HO : Hid (o = none) := Lib.hid (HF0.out.2 fun j hj => (HNO.out j).2 fun hb => HLO j hj hb (by
        have h1 := cntT_lt m hj hb
        have h2 := HN.out
        rw [ticksI_length] at h2
        omega))
      clear hbw hg
      have ho := HO.out
      subst ho
      go_wp2_with fail
      go_ret2
      exact ⟨rfl, HB.out⟩

end Go.Proofs.YtpfpojehcjmfnaaGreat

/-
  slices.BinarySearchFunc over places, by their units.
  Conditions: the slice reads as places; where the place belongs is told.
-/
set_option linter.unusedVariables false
namespace Go.Proofs.YtpfpojehcjmfnaaGreat
open Go.RowKit Go.Sort

set_option maxRecDepth 100000 in
set_option maxHeartbeats 8000000 in
theorem binary_any (v vx : Value) (l : List Pl) (tu ts tc : Int) (kk : Nat) (w : World) (h : PlsAt w v l) (hl : l.length ≤ 1000) (hk : PutAt l tu kk) :
    Calls Tryz.prog 128 #[v, .agg #[.int .i64 tu, .int .i64 ts, .int .i64 tc, vx], .func (.func 129) #[] #[]] w (fun e w' => ∃ q : Bool, e = .returned (.tuple #[.int .i64 kk, .bool q]) ∧ Below w.heap.size w w') := by
  have eg : ∀ args w, (callFunc 129 args).run Tryz.prog w = .ok (.enter 129 args) w := enters_of Tryz.func129 (by kernel_rfl) rfl
  have mixed : Tryz.prog.follows .mixedOrders = true := by kernel_rfl
  have HCU := Lib.hid (fun v' y W => compareUnits_any v' vx y ⟨tu, ts, tc, []⟩ W)
  unfold plA at HCU
  simp only at HCU
  obtain ⟨A, cA, rfl, hlc, hcm⟩ := h.form
  have HL := Lib.hid h
  have HK := Lib.hid hk
  obtain ⟨n, hn⟩ : ∃ n, l.length = n := ⟨_, rfl⟩
  rw [hn] at HL hlc hl ⊢
  have HN := Lib.hid hn
  have hkn : kk ≤ n := by have := hk.le; omega
  obtain ⟨w1, T, hw1, hT, hTl, hb1, hbox⟩ := box_any w #[.int .i64 tu, .int .i64 ts, .int .i64 tc, vx] 48
  have HB1 := Lib.hid hb1
  have HBOX := Lib.hid hbox
  clear h hn hk hb1 hbox
  go_enter Tryz.func128, Tryz.ntmps128
  go_wp2_with fail
  clear hw1 hT
  go_loopg [9, 10, 11] n (fun gg s9 s10 _ wr => ∃ i j : Nat, i ≤ kk ∧ kk ≤ j ∧ j ≤ n ∧ gg = j - i ∧ s9 = .int .i64 i ∧ s10 = .int .i64 j ∧ Below w1.heap.size w1 wr)
  case atStart => exact ⟨0, n, Nat.zero_le _, hkn, Nat.le_refl _, by omega, rfl, rfl, Below.refl _ _⟩
  case round =>
    obtain ⟨i, j, hi, hj, hjn, hg, rfl, rfl, hbw⟩ := hrel
    have HG := Lib.hid hg
    have HBW := Lib.hid hbw
    have HB := Lib.hid (HB1.out.trans (hbw.mono HB1.out.size))
    have HLR := Lib.hid (HL.out.keep HB.out)
    obtain ⟨t0, t1, t2, t3⟩ := four_heads (keep_block HBOX.out hbw)
    have lT : T < wr.heap.size := Nat.lt_of_lt_of_le hTl hbw.size
    clear hg hbw
    by_cases hij : i < j
    · have hijz : (i : Int) < (j : Int) := by omega
      obtain ⟨H, hH⟩ : ∃ H, (i + j) / 2 = H := ⟨_, rfl⟩
      have hH1 : i ≤ H := by omega
      have hH2 : H < j := by omega
      have hHn : (H : Int) < (n : Int) := by omega
      have hH0 : (0 : Int) ≤ (H : Int) := by omega
      obtain ⟨M, hM⟩ : ∃ M, i + j = M := ⟨_, rfl⟩
      have hsum : (i : Int) + (j : Int) = (M : Int) := by omega
      have hw1 : IntKind.i64.wrap (M : Int) = (M : Int) := IntWalk.i64_in _ (by omega)
      have hw2 : IntKind.u64.wrap (M : Int) = (M : Int) := by rw [IntKind.wrap_u64]; omega
      have hsh : (M : Int) >>> 1 = (H : Int) := by rw [Int.shiftRight_eq_div_pow]; omega
      have hsh2 : (M : Int) / 2 = (H : Int) := by omega
      rw [hM] at hH
      clear hM
      have hw3 : IntKind.i64.wrap (H : Int) = (H : Int) := IntWalk.i64_in _ (by omega)
      have hw4 : IntKind.u64.wrap (H : Int) = (H : Int) := by rw [IntKind.wrap_u64]; omega
      obtain ⟨y, hy⟩ := exP_at (xs := l) (k := H) (by rw [HN.out]; omega)
      obtain ⟨b, off, B, d, hA, hbl, _, ⟨c0, c1, c2, c3⟩, _⟩ := HLR.out.at_ hy
      subst hA
      simp only at c0 c1 c2 c3
      have HLS := Lib.hid (HK.out.less H y hy)
      obtain ⟨yu, ys, yc, yp⟩ := y
      simp only at c0 c1 c2 c3 HLS
      have HC := Lib.hid (fun W => HCU.out (.slice B yp.length d) ⟨yu, ys, yc, yp⟩ W)
      simp only at HC
      obtain ⟨np, hnp⟩ : ∃ np, yp.length = np := ⟨_, rfl⟩
      rw [hnp] at c3 HC
      have lb : b < wr.heap.size := hbl
      clear hnp hy hbl
      by_cases hlu : yu < tu
      · have hc : cmpI yu tu = -1 := cmp_neg hlu
        rw [hc] at HC
        have hHk := HLS.out.1 hlu
        clear hlu hc
        go_wp2_with fail
        refine wp_region_held_drew (S := fun w' => w'.cell? ⟨T, 0, none⟩ = some (.int .i64 tu) ∧ w'.cell? ⟨T, 1, none⟩ = some (.int .i64 ts) ∧ w'.cell? ⟨T, 2, none⟩ = some (.int .i64 tc) ∧ w'.cell? ⟨T, 3, none⟩ = some (vx) ∧ w'.cell? ⟨b, off + H * 4, none⟩ = some (.int .i64 yu) ∧ w'.cell? ⟨b, off + H * 4 + 1, none⟩ = some (.int .i64 ys) ∧ w'.cell? ⟨b, off + H * 4 + 2, none⟩ = some (.int .i64 yc) ∧ w'.cell? ⟨b, off + H * 4 + 3, none⟩ = some (.slice B np d)) (by kernel_rfl) ?_ (fun hHeld => ?_)
        · exact ⟨t0, t1, t2, t3, c0, c1, c2, c3⟩
        refine wpAnyH_take (i := 0) (oi := ⟨some 24, _, _, _, _, _⟩) (v := ?_) rfl (by kernel_rfl) (by kernel_rfl) (by kernel_rfl) (fun _ _ _ h => h) (Or.inl ⟨by kernel_rfl, ?_⟩) (by assumption) ?_
        rotate_left
        · (intro w hSw; (try dsimp only at hSw); go_simp; try with_reducible rfl)
        (try simp only [Act.put, List.setIfInBounds_toArray, List.set_cons_zero, List.set_cons_succ])
        refine wpAnyH_take (i := 1) (oi := ⟨some 25, _, _, _, _, _⟩) (v := ?_) rfl (by kernel_rfl) (by kernel_rfl) (by kernel_rfl) (fun _ _ _ h => h) (Or.inl ⟨by kernel_rfl, ?_⟩) (by assumption) ?_
        rotate_left
        · (intro w hSw; (try dsimp only at hSw); go_simp; try with_reducible rfl)
        (try simp only [Act.put, List.setIfInBounds_toArray, List.set_cons_zero, List.set_cons_succ])
        refine wpAnyH_take (i := 2) (oi := ⟨some 26, _, _, _, _, _⟩) (v := ?_) rfl (by kernel_rfl) (by kernel_rfl) (by kernel_rfl) (fun _ _ _ h => h) (Or.inl ⟨by kernel_rfl, ?_⟩) (by assumption) ?_
        rotate_left
        · (intro w hSw; (try dsimp only at hSw); go_simp; try with_reducible rfl)
        (try simp only [Act.put, List.setIfInBounds_toArray, List.set_cons_zero, List.set_cons_succ])
        refine wpAnyH_take (i := 3) (oi := ⟨some 27, _, _, _, _, _⟩) (v := ?_) rfl (by kernel_rfl) (by kernel_rfl) (by kernel_rfl) (fun _ _ _ h => h) (Or.inl ⟨by kernel_rfl, ?_⟩) (by assumption) ?_
        rotate_left
        · (intro w hSw; (try dsimp only at hSw); go_simp; try with_reducible rfl)
        (try simp only [Act.put, List.setIfInBounds_toArray, List.set_cons_zero, List.set_cons_succ])
        refine wpAnyH_take (i := 4) (oi := ⟨some 28, _, _, _, _, _⟩) (v := ?_) rfl (by kernel_rfl) (by kernel_rfl) (by kernel_rfl) (fun _ _ _ h => h) (Or.inl ⟨by kernel_rfl, ?_⟩) (by assumption) ?_
        rotate_left
        · (intro w hSw; (try dsimp only at hSw); go_simp; try with_reducible rfl)
        (try simp only [Act.put, List.setIfInBounds_toArray, List.set_cons_zero, List.set_cons_succ])
        refine wpAnyH_take (i := 5) (oi := ⟨some 29, _, _, _, _, _⟩) (v := ?_) rfl (by kernel_rfl) (by kernel_rfl) (by kernel_rfl) (fun _ _ _ h => h) (Or.inl ⟨by kernel_rfl, ?_⟩) (by assumption) ?_
        rotate_left
        · (intro w hSw; (try dsimp only at hSw); go_simp; try with_reducible rfl)
        (try simp only [Act.put, List.setIfInBounds_toArray, List.set_cons_zero, List.set_cons_succ])
        refine wpAnyH_ready (rs := [6]) (by kernel_rfl) (by simp) ?_
        refine AllReadyH.cons (o := ⟨some 30, _, _, _, _, _⟩) rfl (fun K hK => ?_) AllReadyH.nil
        rw [if_pos (by kernel_rfl)]
        go_simp
        go_at_fn 129; refine (HC.out _).mono ?_; rintro e wq ⟨rfl, hbr⟩
        refine hK.out _ _ ?_ (fun hHeld => ?_)
        · exact ⟨(hbr.cell (p := ⟨T, 0, none⟩) lT).trans t0, (hbr.cell (p := ⟨T, 1, none⟩) lT).trans t1, (hbr.cell (p := ⟨T, 2, none⟩) lT).trans t2, (hbr.cell (p := ⟨T, 3, none⟩) lT).trans t3, (hbr.cell (p := ⟨b, off + H * 4, none⟩) lb).trans c0, (hbr.cell (p := ⟨b, off + H * 4 + 1, none⟩) lb).trans c1, (hbr.cell (p := ⟨b, off + H * 4 + 2, none⟩) lb).trans c2, (hbr.cell (p := ⟨b, off + H * 4 + 3, none⟩) lb).trans c3⟩
        clear hK K
        (try simp only [Act.put, List.setIfInBounds_toArray, List.set_cons_zero, List.set_cons_succ])
        refine wpAnyH_take (i := 7) (oi := ⟨some 31, _, _, _, _, _⟩) (v := ?_) rfl (by kernel_rfl) (by kernel_rfl) (by kernel_rfl) (fun _ _ _ h => h) (Or.inl ⟨by kernel_rfl, ?_⟩) (by assumption) ?_
        rotate_left
        · (intro w hSw; (try dsimp only at hSw); go_simp; try with_reducible rfl)
        (try simp only [Act.put, List.setIfInBounds_toArray, List.set_cons_zero, List.set_cons_succ])
        refine wpAnyH_done (by kernel_rfl) ?_ _
        go_wp2_with fail
        go_roundg (j - (H + 1))
        case measure => have := HG.out; omega
        case rel => exact ⟨H + 1, j, by omega, by omega, hjn, rfl, by go_num, rfl, HBW.out.drew.trans (hbr.mono HBW.out.size)⟩
      · have hc := cmp_nonneg hlu
        obtain ⟨Z, hZ⟩ : ∃ Z, cmpI yu tu = Z := ⟨_, rfl⟩
        rw [hZ] at HC hc
        have hcd : decide (Z < 0) = false := decide_eq_false (by omega)
        have hHk : kk ≤ H := by
          exact Nat.le_of_not_lt fun e => hlu (HLS.out.2 e)
        clear hlu hZ hc
        go_wp2_with fail
        refine wp_region_held_drew (S := fun w' => w'.cell? ⟨T, 0, none⟩ = some (.int .i64 tu) ∧ w'.cell? ⟨T, 1, none⟩ = some (.int .i64 ts) ∧ w'.cell? ⟨T, 2, none⟩ = some (.int .i64 tc) ∧ w'.cell? ⟨T, 3, none⟩ = some (vx) ∧ w'.cell? ⟨b, off + H * 4, none⟩ = some (.int .i64 yu) ∧ w'.cell? ⟨b, off + H * 4 + 1, none⟩ = some (.int .i64 ys) ∧ w'.cell? ⟨b, off + H * 4 + 2, none⟩ = some (.int .i64 yc) ∧ w'.cell? ⟨b, off + H * 4 + 3, none⟩ = some (.slice B np d)) (by kernel_rfl) ?_ (fun hHeld => ?_)
        · exact ⟨t0, t1, t2, t3, c0, c1, c2, c3⟩
        refine wpAnyH_take (i := 0) (oi := ⟨some 24, _, _, _, _, _⟩) (v := ?_) rfl (by kernel_rfl) (by kernel_rfl) (by kernel_rfl) (fun _ _ _ h => h) (Or.inl ⟨by kernel_rfl, ?_⟩) (by assumption) ?_
        rotate_left
        · (intro w hSw; (try dsimp only at hSw); go_simp; try with_reducible rfl)
        (try simp only [Act.put, List.setIfInBounds_toArray, List.set_cons_zero, List.set_cons_succ])
        refine wpAnyH_take (i := 1) (oi := ⟨some 25, _, _, _, _, _⟩) (v := ?_) rfl (by kernel_rfl) (by kernel_rfl) (by kernel_rfl) (fun _ _ _ h => h) (Or.inl ⟨by kernel_rfl, ?_⟩) (by assumption) ?_
        rotate_left
        · (intro w hSw; (try dsimp only at hSw); go_simp; try with_reducible rfl)
        (try simp only [Act.put, List.setIfInBounds_toArray, List.set_cons_zero, List.set_cons_succ])
        refine wpAnyH_take (i := 2) (oi := ⟨some 26, _, _, _, _, _⟩) (v := ?_) rfl (by kernel_rfl) (by kernel_rfl) (by kernel_rfl) (fun _ _ _ h => h) (Or.inl ⟨by kernel_rfl, ?_⟩) (by assumption) ?_
        rotate_left
        · (intro w hSw; (try dsimp only at hSw); go_simp; try with_reducible rfl)
        (try simp only [Act.put, List.setIfInBounds_toArray, List.set_cons_zero, List.set_cons_succ])
        refine wpAnyH_take (i := 3) (oi := ⟨some 27, _, _, _, _, _⟩) (v := ?_) rfl (by kernel_rfl) (by kernel_rfl) (by kernel_rfl) (fun _ _ _ h => h) (Or.inl ⟨by kernel_rfl, ?_⟩) (by assumption) ?_
        rotate_left
        · (intro w hSw; (try dsimp only at hSw); go_simp; try with_reducible rfl)
        (try simp only [Act.put, List.setIfInBounds_toArray, List.set_cons_zero, List.set_cons_succ])
        refine wpAnyH_take (i := 4) (oi := ⟨some 28, _, _, _, _, _⟩) (v := ?_) rfl (by kernel_rfl) (by kernel_rfl) (by kernel_rfl) (fun _ _ _ h => h) (Or.inl ⟨by kernel_rfl, ?_⟩) (by assumption) ?_
        rotate_left
        · (intro w hSw; (try dsimp only at hSw); go_simp; try with_reducible rfl)
        (try simp only [Act.put, List.setIfInBounds_toArray, List.set_cons_zero, List.set_cons_succ])
        refine wpAnyH_take (i := 5) (oi := ⟨some 29, _, _, _, _, _⟩) (v := ?_) rfl (by kernel_rfl) (by kernel_rfl) (by kernel_rfl) (fun _ _ _ h => h) (Or.inl ⟨by kernel_rfl, ?_⟩) (by assumption) ?_
        rotate_left
        · (intro w hSw; (try dsimp only at hSw); go_simp; try with_reducible rfl)
        (try simp only [Act.put, List.setIfInBounds_toArray, List.set_cons_zero, List.set_cons_succ])
        refine wpAnyH_ready (rs := [6]) (by kernel_rfl) (by simp) ?_
        refine AllReadyH.cons (o := ⟨some 30, _, _, _, _, _⟩) rfl (fun K hK => ?_) AllReadyH.nil
        rw [if_pos (by kernel_rfl)]
        go_simp
        go_at_fn 129; refine (HC.out _).mono ?_; rintro e wq ⟨rfl, hbr⟩
        refine hK.out _ _ ?_ (fun hHeld => ?_)
        · exact ⟨(hbr.cell (p := ⟨T, 0, none⟩) lT).trans t0, (hbr.cell (p := ⟨T, 1, none⟩) lT).trans t1, (hbr.cell (p := ⟨T, 2, none⟩) lT).trans t2, (hbr.cell (p := ⟨T, 3, none⟩) lT).trans t3, (hbr.cell (p := ⟨b, off + H * 4, none⟩) lb).trans c0, (hbr.cell (p := ⟨b, off + H * 4 + 1, none⟩) lb).trans c1, (hbr.cell (p := ⟨b, off + H * 4 + 2, none⟩) lb).trans c2, (hbr.cell (p := ⟨b, off + H * 4 + 3, none⟩) lb).trans c3⟩
        clear hK K
        (try simp only [Act.put, List.setIfInBounds_toArray, List.set_cons_zero, List.set_cons_succ])
        refine wpAnyH_take (i := 7) (oi := ⟨some 31, _, _, _, _, _⟩) (v := ?_) rfl (by kernel_rfl) (by kernel_rfl) (by kernel_rfl) (fun _ _ _ h => h) (Or.inl ⟨by kernel_rfl, ?_⟩) (by assumption) ?_
        rotate_left
        · (intro w hSw; (try dsimp only at hSw); go_simp; try with_reducible rfl)
        (try simp only [Act.put, List.setIfInBounds_toArray, List.set_cons_zero, List.set_cons_succ])
        refine wpAnyH_done (by kernel_rfl) ?_ _
        go_wp2_with fail
        go_roundg (H - i)
        case measure => have := HG.out; omega
        case rel => exact ⟨i, H, hi, hHk, by omega, rfl, rfl, by go_num, HBW.out.drew.trans (hbr.mono HBW.out.size)⟩
    · have hijz : ¬ (i : Int) < (j : Int) := by omega
      obtain rfl : i = kk := by omega
      by_cases hin : i < n
      · have hinz : (i : Int) < (n : Int) := by omega
        have hi0 : (0 : Int) ≤ (i : Int) := by omega
        obtain ⟨y, hy⟩ := exP_at (xs := l) (k := i) (by rw [HN.out]; omega)
        obtain ⟨b, off, B, d, hA, hbl, _, ⟨c0, c1, c2, c3⟩, _⟩ := HLR.out.at_ hy
        subst hA
        simp only at c0 c1 c2 c3
        have HLS := Lib.hid (HK.out.less i y hy)
        obtain ⟨yu, ys, yc, yp⟩ := y
        simp only at c0 c1 c2 c3 HLS
        have HC := Lib.hid (fun W => HCU.out (.slice B yp.length d) ⟨yu, ys, yc, yp⟩ W)
        simp only at HC
        obtain ⟨np, hnp⟩ : ∃ np, yp.length = np := ⟨_, rfl⟩
        rw [hnp] at c3 HC
        have lb : b < wr.heap.size := hbl
        clear hnp hy hbl
        obtain ⟨Z, hZ⟩ : ∃ Z, cmpI yu tu = Z := ⟨_, rfl⟩
        rw [hZ] at HC
        clear hZ
        go_wp2_with fail
        refine wp_region_held_drew (S := fun w' => w'.cell? ⟨T, 0, none⟩ = some (.int .i64 tu) ∧ w'.cell? ⟨T, 1, none⟩ = some (.int .i64 ts) ∧ w'.cell? ⟨T, 2, none⟩ = some (.int .i64 tc) ∧ w'.cell? ⟨T, 3, none⟩ = some (vx) ∧ w'.cell? ⟨b, off + i * 4, none⟩ = some (.int .i64 yu) ∧ w'.cell? ⟨b, off + i * 4 + 1, none⟩ = some (.int .i64 ys) ∧ w'.cell? ⟨b, off + i * 4 + 2, none⟩ = some (.int .i64 yc) ∧ w'.cell? ⟨b, off + i * 4 + 3, none⟩ = some (.slice B np d)) (by kernel_rfl) ?_ (fun hHeld => ?_)
        · exact ⟨t0, t1, t2, t3, c0, c1, c2, c3⟩
        refine wpAnyH_take (i := 0) (oi := ⟨some 35, _, _, _, _, _⟩) (v := ?_) rfl (by kernel_rfl) (by kernel_rfl) (by kernel_rfl) (fun _ _ _ h => h) (Or.inl ⟨by kernel_rfl, ?_⟩) (by assumption) ?_
        rotate_left
        · (intro w hSw; (try dsimp only at hSw); go_simp; try with_reducible rfl)
        (try simp only [Act.put, List.setIfInBounds_toArray, List.set_cons_zero, List.set_cons_succ])
        refine wpAnyH_take (i := 1) (oi := ⟨some 36, _, _, _, _, _⟩) (v := ?_) rfl (by kernel_rfl) (by kernel_rfl) (by kernel_rfl) (fun _ _ _ h => h) (Or.inl ⟨by kernel_rfl, ?_⟩) (by assumption) ?_
        rotate_left
        · (intro w hSw; (try dsimp only at hSw); go_simp; try with_reducible rfl)
        (try simp only [Act.put, List.setIfInBounds_toArray, List.set_cons_zero, List.set_cons_succ])
        refine wpAnyH_take (i := 2) (oi := ⟨some 37, _, _, _, _, _⟩) (v := ?_) rfl (by kernel_rfl) (by kernel_rfl) (by kernel_rfl) (fun _ _ _ h => h) (Or.inl ⟨by kernel_rfl, ?_⟩) (by assumption) ?_
        rotate_left
        · (intro w hSw; (try dsimp only at hSw); go_simp; try with_reducible rfl)
        (try simp only [Act.put, List.setIfInBounds_toArray, List.set_cons_zero, List.set_cons_succ])
        refine wpAnyH_take (i := 3) (oi := ⟨some 38, _, _, _, _, _⟩) (v := ?_) rfl (by kernel_rfl) (by kernel_rfl) (by kernel_rfl) (fun _ _ _ h => h) (Or.inl ⟨by kernel_rfl, ?_⟩) (by assumption) ?_
        rotate_left
        · (intro w hSw; (try dsimp only at hSw); go_simp; try with_reducible rfl)
        (try simp only [Act.put, List.setIfInBounds_toArray, List.set_cons_zero, List.set_cons_succ])
        refine wpAnyH_take (i := 4) (oi := ⟨some 39, _, _, _, _, _⟩) (v := ?_) rfl (by kernel_rfl) (by kernel_rfl) (by kernel_rfl) (fun _ _ _ h => h) (Or.inl ⟨by kernel_rfl, ?_⟩) (by assumption) ?_
        rotate_left
        · (intro w hSw; (try dsimp only at hSw); go_simp; try with_reducible rfl)
        (try simp only [Act.put, List.setIfInBounds_toArray, List.set_cons_zero, List.set_cons_succ])
        refine wpAnyH_take (i := 5) (oi := ⟨some 40, _, _, _, _, _⟩) (v := ?_) rfl (by kernel_rfl) (by kernel_rfl) (by kernel_rfl) (fun _ _ _ h => h) (Or.inl ⟨by kernel_rfl, ?_⟩) (by assumption) ?_
        rotate_left
        · (intro w hSw; (try dsimp only at hSw); go_simp; try with_reducible rfl)
        (try simp only [Act.put, List.setIfInBounds_toArray, List.set_cons_zero, List.set_cons_succ])
        refine wpAnyH_take (i := 6) (oi := ⟨some 41, _, _, _, _, _⟩) (v := ?_) rfl (by kernel_rfl) (by kernel_rfl) (by kernel_rfl) (fun _ _ _ h => h) (Or.inl ⟨by kernel_rfl, ?_⟩) (by assumption) ?_
        rotate_left
        · (intro w hSw; (try dsimp only at hSw); go_simp; try with_reducible rfl)
        (try simp only [Act.put, List.setIfInBounds_toArray, List.set_cons_zero, List.set_cons_succ])
        refine wpAnyH_take (i := 7) (oi := ⟨some 42, _, _, _, _, _⟩) (v := ?_) rfl (by kernel_rfl) (by kernel_rfl) (by kernel_rfl) (fun _ _ _ h => h) (Or.inl ⟨by kernel_rfl, ?_⟩) (by assumption) ?_
        rotate_left
        · (intro w hSw; (try dsimp only at hSw); go_simp; try with_reducible rfl)
        (try simp only [Act.put, List.setIfInBounds_toArray, List.set_cons_zero, List.set_cons_succ])
        refine wpAnyH_take (i := 8) (oi := ⟨some 43, _, _, _, _, _⟩) (v := ?_) rfl (by kernel_rfl) (by kernel_rfl) (by kernel_rfl) (fun _ _ _ h => h) (Or.inl ⟨by kernel_rfl, ?_⟩) (by assumption) ?_
        rotate_left
        · (intro w hSw; (try dsimp only at hSw); go_simp; try with_reducible rfl)
        (try simp only [Act.put, List.setIfInBounds_toArray, List.set_cons_zero, List.set_cons_succ])
        refine wpAnyH_take (i := 9) (oi := ⟨some 44, _, _, _, _, _⟩) (v := ?_) rfl (by kernel_rfl) (by kernel_rfl) (by kernel_rfl) (fun _ _ _ h => h) (Or.inl ⟨by kernel_rfl, ?_⟩) (by assumption) ?_
        rotate_left
        · (intro w hSw; (try dsimp only at hSw); go_simp; try with_reducible rfl)
        (try simp only [Act.put, List.setIfInBounds_toArray, List.set_cons_zero, List.set_cons_succ])
        refine wpAnyH_take (i := 10) (oi := ⟨some 45, _, _, _, _, _⟩) (v := ?_) rfl (by kernel_rfl) (by kernel_rfl) (by kernel_rfl) (fun _ _ _ h => h) (Or.inl ⟨by kernel_rfl, ?_⟩) (by assumption) ?_
        rotate_left
        · (intro w hSw; (try dsimp only at hSw); go_simp; try with_reducible rfl)
        (try simp only [Act.put, List.setIfInBounds_toArray, List.set_cons_zero, List.set_cons_succ])
        refine wpAnyH_ready (rs := [11]) (by kernel_rfl) (by simp) ?_
        refine AllReadyH.cons (o := ⟨some 46, _, _, _, _, _⟩) rfl (fun K hK => ?_) AllReadyH.nil
        rw [if_pos (by kernel_rfl)]
        go_simp
        go_at_fn 129; refine (HC.out _).mono ?_; rintro e wq ⟨rfl, hbr⟩
        refine hK.out _ _ ?_ (fun hHeld => ?_)
        · exact ⟨(hbr.cell (p := ⟨T, 0, none⟩) lT).trans t0, (hbr.cell (p := ⟨T, 1, none⟩) lT).trans t1, (hbr.cell (p := ⟨T, 2, none⟩) lT).trans t2, (hbr.cell (p := ⟨T, 3, none⟩) lT).trans t3, (hbr.cell (p := ⟨b, off + i * 4, none⟩) lb).trans c0, (hbr.cell (p := ⟨b, off + i * 4 + 1, none⟩) lb).trans c1, (hbr.cell (p := ⟨b, off + i * 4 + 2, none⟩) lb).trans c2, (hbr.cell (p := ⟨b, off + i * 4 + 3, none⟩) lb).trans c3⟩
        clear hK K
        (try simp only [Act.put, List.setIfInBounds_toArray, List.set_cons_zero, List.set_cons_succ])
        refine wpAnyH_take (i := 12) (oi := ⟨some 47, _, _, _, _, _⟩) (v := ?_) rfl (by kernel_rfl) (by kernel_rfl) (by kernel_rfl) (fun _ _ _ h => h) (Or.inl ⟨by kernel_rfl, ?_⟩) (by assumption) ?_
        rotate_left
        · (intro w hSw; (try dsimp only at hSw); go_simp; try with_reducible rfl)
        (try simp only [Act.put, List.setIfInBounds_toArray, List.set_cons_zero, List.set_cons_succ])
        refine wpAnyH_take (i := 13) (oi := ⟨some 48, _, _, _, _, _⟩) (v := ?_) rfl (by kernel_rfl) (by kernel_rfl) (by kernel_rfl) (fun _ _ _ h => h) (Or.inl ⟨by kernel_rfl, ?_⟩) (by assumption) ?_
        rotate_left
        · (intro w hSw; (try dsimp only at hSw); go_simp; try with_reducible rfl)
        (try simp only [Act.put, List.setIfInBounds_toArray, List.set_cons_zero, List.set_cons_succ])
        refine wpAnyH_take (i := 14) (oi := ⟨some 6, _, _, _, _, _⟩) (v := ?_) rfl (by kernel_rfl) (by kernel_rfl) (by kernel_rfl) (fun _ _ _ h => h) (Or.inl ⟨by kernel_rfl, ?_⟩) (by assumption) ?_
        rotate_left
        · (intro w hSw; (try dsimp only at hSw); go_simp; try with_reducible rfl)
        (try simp only [Act.put, List.setIfInBounds_toArray, List.set_cons_zero, List.set_cons_succ])
        refine wpAnyH_take (i := 15) (oi := ⟨some 7, _, _, _, _, _⟩) (v := ?_) rfl (by kernel_rfl) (by kernel_rfl) (by kernel_rfl) (fun _ _ _ h => h) (Or.inl ⟨by kernel_rfl, ?_⟩) (by assumption) ?_
        rotate_left
        · (intro w hSw; (try dsimp only at hSw); go_simp; try with_reducible rfl)
        (try simp only [Act.put, List.setIfInBounds_toArray, List.set_cons_zero, List.set_cons_succ])
        refine wpAnyH_done (by kernel_rfl) ?_ _
        go_wp2_with fail
        go_ret2
        exact ⟨_, rfl, HB.out.drew.trans (hbr.mono HB.out.size)⟩
      · have hinz : ¬ (i : Int) < (n : Int) := by omega
        go_wp2_with fail
        refine wp_region_held_drew (S := fun w' => w'.cell? ⟨T, 0, none⟩ = some (.int .i64 tu) ∧ w'.cell? ⟨T, 1, none⟩ = some (.int .i64 ts) ∧ w'.cell? ⟨T, 2, none⟩ = some (.int .i64 tc) ∧ w'.cell? ⟨T, 3, none⟩ = some (vx)) (by kernel_rfl) ?_ (fun hHeld => ?_)
        · exact ⟨t0, t1, t2, t3⟩
        refine wpAnyH_take (i := 0) (oi := ⟨some 35, _, _, _, _, _⟩) (v := ?_) rfl (by kernel_rfl) (by kernel_rfl) (by kernel_rfl) (fun _ _ _ h => h) (Or.inl ⟨by kernel_rfl, ?_⟩) (by assumption) ?_
        rotate_left
        · (intro w hSw; (try dsimp only at hSw); go_simp; try with_reducible rfl)
        (try simp only [Act.put, List.setIfInBounds_toArray, List.set_cons_zero, List.set_cons_succ])
        refine wpAnyH_take (i := 1) (oi := ⟨some 36, _, _, _, _, _⟩) (v := ?_) rfl (by kernel_rfl) (by kernel_rfl) (by kernel_rfl) (fun _ _ _ h => h) (Or.inl ⟨by kernel_rfl, ?_⟩) (by assumption) ?_
        rotate_left
        · (intro w hSw; (try dsimp only at hSw); go_simp; try with_reducible rfl)
        (try simp only [Act.put, List.setIfInBounds_toArray, List.set_cons_zero, List.set_cons_succ])
        refine wpAnyH_take (i := 2) (oi := ⟨some 37, _, _, _, _, _⟩) (v := ?_) rfl (by kernel_rfl) (by kernel_rfl) (by kernel_rfl) (fun _ _ _ h => h) (Or.inl ⟨by kernel_rfl, ?_⟩) (by assumption) ?_
        rotate_left
        · (intro w hSw; (try dsimp only at hSw); go_simp; try with_reducible rfl)
        (try simp only [Act.put, List.setIfInBounds_toArray, List.set_cons_zero, List.set_cons_succ])
        refine wpAnyH_take (i := 3) (oi := ⟨some 38, _, _, _, _, _⟩) (v := ?_) rfl (by kernel_rfl) (by kernel_rfl) (by kernel_rfl) (fun _ _ _ h => h) (Or.inl ⟨by kernel_rfl, ?_⟩) (by assumption) ?_
        rotate_left
        · (intro w hSw; (try dsimp only at hSw); go_simp; try with_reducible rfl)
        (try simp only [Act.put, List.setIfInBounds_toArray, List.set_cons_zero, List.set_cons_succ])
        refine wpAnyH_take (i := 4) (oi := ⟨some 39, _, _, _, _, _⟩) (v := ?_) rfl (by kernel_rfl) (by kernel_rfl) (by kernel_rfl) (fun _ _ _ h => h) (Or.inl ⟨by kernel_rfl, ?_⟩) (by assumption) ?_
        rotate_left
        · (intro w hSw; (try dsimp only at hSw); go_simp; try with_reducible rfl)
        (try simp only [Act.put, List.setIfInBounds_toArray, List.set_cons_zero, List.set_cons_succ])
        refine wpAnyH_take (i := 5) (oi := ⟨some 40, _, _, _, _, _⟩) (v := undef) rfl (by kernel_rfl) (by kernel_rfl) (by kernel_rfl) (fun _ _ _ h => h) (Or.inr ⟨by kernel_rfl, rfl⟩) (by assumption) ?_
        (try simp only [Act.put, List.setIfInBounds_toArray, List.set_cons_zero, List.set_cons_succ])
        refine wpAnyH_take (i := 6) (oi := ⟨some 41, _, _, _, _, _⟩) (v := undef) rfl (by kernel_rfl) (by kernel_rfl) (by kernel_rfl) (fun _ _ _ h => h) (Or.inr ⟨by kernel_rfl, rfl⟩) (by assumption) ?_
        (try simp only [Act.put, List.setIfInBounds_toArray, List.set_cons_zero, List.set_cons_succ])
        refine wpAnyH_take (i := 7) (oi := ⟨some 42, _, _, _, _, _⟩) (v := undef) rfl (by kernel_rfl) (by kernel_rfl) (by kernel_rfl) (fun _ _ _ h => h) (Or.inr ⟨by kernel_rfl, rfl⟩) (by assumption) ?_
        (try simp only [Act.put, List.setIfInBounds_toArray, List.set_cons_zero, List.set_cons_succ])
        refine wpAnyH_take (i := 8) (oi := ⟨some 43, _, _, _, _, _⟩) (v := undef) rfl (by kernel_rfl) (by kernel_rfl) (by kernel_rfl) (fun _ _ _ h => h) (Or.inr ⟨by kernel_rfl, rfl⟩) (by assumption) ?_
        (try simp only [Act.put, List.setIfInBounds_toArray, List.set_cons_zero, List.set_cons_succ])
        refine wpAnyH_take (i := 9) (oi := ⟨some 44, _, _, _, _, _⟩) (v := undef) rfl (by kernel_rfl) (by kernel_rfl) (by kernel_rfl) (fun _ _ _ h => h) (Or.inr ⟨by kernel_rfl, rfl⟩) (by assumption) ?_
        (try simp only [Act.put, List.setIfInBounds_toArray, List.set_cons_zero, List.set_cons_succ])
        refine wpAnyH_take (i := 10) (oi := ⟨some 45, _, _, _, _, _⟩) (v := undef) rfl (by kernel_rfl) (by kernel_rfl) (by kernel_rfl) (fun _ _ _ h => h) (Or.inr ⟨by kernel_rfl, rfl⟩) (by assumption) ?_
        (try simp only [Act.put, List.setIfInBounds_toArray, List.set_cons_zero, List.set_cons_succ])
        refine wpAnyH_take (i := 11) (oi := ⟨some 46, _, _, _, _, _⟩) (v := undef) rfl (by kernel_rfl) (by kernel_rfl) (by kernel_rfl) (fun _ _ _ h => h) (Or.inr ⟨by kernel_rfl, rfl⟩) (by assumption) ?_
        (try simp only [Act.put, List.setIfInBounds_toArray, List.set_cons_zero, List.set_cons_succ])
        refine wpAnyH_take (i := 12) (oi := ⟨some 47, _, _, _, _, _⟩) (v := undef) rfl (by kernel_rfl) (by kernel_rfl) (by kernel_rfl) (fun _ _ _ h => h) (Or.inr ⟨by kernel_rfl, rfl⟩) (by assumption) ?_
        (try simp only [Act.put, List.setIfInBounds_toArray, List.set_cons_zero, List.set_cons_succ])
        refine wpAnyH_take (i := 13) (oi := ⟨some 48, _, _, _, _, _⟩) (v := ?_) rfl (by kernel_rfl) (by kernel_rfl) (by kernel_rfl) (fun _ _ _ h => h) (Or.inl ⟨by kernel_rfl, ?_⟩) (by assumption) ?_
        rotate_left
        · (intro w hSw; (try dsimp only at hSw); go_simp; try with_reducible rfl)
        (try simp only [Act.put, List.setIfInBounds_toArray, List.set_cons_zero, List.set_cons_succ])
        refine wpAnyH_take (i := 14) (oi := ⟨some 6, _, _, _, _, _⟩) (v := ?_) rfl (by kernel_rfl) (by kernel_rfl) (by kernel_rfl) (fun _ _ _ h => h) (Or.inl ⟨by kernel_rfl, ?_⟩) (by assumption) ?_
        rotate_left
        · (intro w hSw; (try dsimp only at hSw); go_simp; try with_reducible rfl)
        (try simp only [Act.put, List.setIfInBounds_toArray, List.set_cons_zero, List.set_cons_succ])
        refine wpAnyH_take (i := 15) (oi := ⟨some 7, _, _, _, _, _⟩) (v := ?_) rfl (by kernel_rfl) (by kernel_rfl) (by kernel_rfl) (fun _ _ _ h => h) (Or.inl ⟨by kernel_rfl, ?_⟩) (by assumption) ?_
        rotate_left
        · (intro w hSw; (try dsimp only at hSw); go_simp; try with_reducible rfl)
        (try simp only [Act.put, List.setIfInBounds_toArray, List.set_cons_zero, List.set_cons_succ])
        refine wpAnyH_done (by kernel_rfl) ?_ _
        go_wp2_with fail
        go_ret2
        exact ⟨_, rfl, HB.out.drew⟩
end Go.Proofs.YtpfpojehcjmfnaaGreat
