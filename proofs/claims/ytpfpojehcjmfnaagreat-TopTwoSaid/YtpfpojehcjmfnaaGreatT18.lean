/-
  The page's examples, reckoned.
  Conditions: none.
-/
import Derived.Test.YtpfpojehcjmfnaaGreatT16
import Derived.Test.YtpfpojehcjmfnaaGreatT17
import Derived.Test.YtpfpojehcjmfnaaGreatT14
import Derived.Test.YtpfpojehcjmfnaaGreatT09
import Derived.Test.YtpfpojehcjmfnaaGreatT15
import Derived.Test.YtpfpojehcjmfnaaGreatT13
import Derived.Test.YtpfpojehcjmfnaaGreatT10

/-
  Wants along the chain, of the program.
  Conditions: the slices read as places, as wants; the numbers are of their kinds; both are short.
-/
set_option linter.unusedVariables false
set_option linter.unusedSimpArgs false
namespace Go.Proofs.YtpfpojehcjmfnaaGreat
open Go.RowKit

theorem Tryz.sizeCh : (Tryz.prog.info? 133).map (·.size) = some 4 := by kernel_rfl
/-- One want along the chain, as the program lays it. -/
theorem chS_place {n m a : Nat} {l : List Pl} {y : Sp} (h : 1 ≤ y.2) : chS n m (l, a) y = (addU l (placeX n a (rmN n m l) y.1 y.2.toNat), placeT n a (rmN n m l) y.2.toNat) := by
  have hs : ((y.2.toNat : Nat) : Int) = y.2 := by omega
  by_cases hc : y.2.toNat ≤ rmN n m l (curN (rmN n m l))
  · rw [chS_whole hc]
    unfold placeX placeT
    rw [if_pos hc, if_pos hc, hs]
  · rw [chS_split hc]
    unfold placeX placeT splP
    rw [if_neg hc, if_neg hc, hs, Int.toNat_natCast]
theorem rm_out {f : Int} {m : Nat} {l : List Pl} {c : Nat} (h : 16 ≤ c) : rmN f m l c = 0 := by
  unfold rmN roomN
  cases hh : hasC m (c : Int) with
  | true => have := hasC_range hh; omega
  | false => rfl
/-- Some wants behind: the plan so far in block F, what is left in C and R. -/
structure SpSt (n m base F C R : Nat) (w6 wr : World) (v : Value) (l : List Pl) (core a : Nat) : Prop where
  apart : Apart (fun b => b = F ∨ b = C ∨ b = R) w6 wr
  box : wr.heap[F]? = some (.cells #[.int .i64 n, .int .u32 m, v] 26 (0, 0))
  pls : PlsIn (fun b => base ≤ b ∧ b ≠ F ∧ b ≠ C ∧ b ≠ R) wr v l
  ch : ChAt wr C R n (fun i => (rmN n m l i : Int)) core a
  zero : ∀ i, i < core → rmN n m l i = 0
  fc : F ≠ C ∧ F ≠ R
theorem SpSt.keep {n m base F C R : Nat} {w6 wr W : World} {v : Value} {l : List Pl} {core a : Nat} (h : SpSt n m base F C R w6 wr v l core a) (hb : Below wr.heap.size wr W) : SpSt n m base F C R w6 W v l core a :=
  ⟨h.apart.trans (Apart.of_below (F := fun _ => False) hb) (fun x _ e => e.elim), keep_block h.box hb, h.pls.keep hb, h.ch.keep hb, h.zero, h.fc⟩
theorem SpSt.pls8 {n m base F C R : Nat} {w6 w7 w8 : World} {v : Value} {l : List Pl} {core a : Nat} (h : SpSt n m base F C R w6 w7 v l core a) (ha : Apart (fun b => b = C ∨ b = R) w7.drew w8) : PlsAt w8 v l :=
  (h.pls.keepF (W' := w8) ha.size fun b hb hF => ha.block b hb fun e => by rcases e with e | e; exact hF.2.2.1 e; exact hF.2.2.2 e).any
theorem SpSt.box9 {n m base F C R : Nat} {w6 w7 w8 w9 : World} {v : Value} {l : List Pl} {core a : Nat} (h : SpSt n m base F C R w6 w7 v l core a) (ha : Apart (fun b => b = C ∨ b = R) w7.drew w8) (hb : Below w8.heap.size w8 w9) :
    w9.heap[F]? = some (.cells #[.int .i64 n, .int .u32 m, v] 26 (0, 0)) :=
  keep_block ((ha.block F (heap_lt h.box) fun e => by rcases e with e | e; exact h.fc.1 e; exact h.fc.2 e).trans h.box) hb
theorem SpSt.put {n m base F C R : Nat} {w6 w7 w8 w9 : World} {v v9 : Value} {l l9 : List Pl} {core a core9 a9 : Nat} {r9 : Nat → Nat} (h : SpSt n m base F C R w6 w7 v l core a) (ha : Apart (fun b => b = C ∨ b = R) w7.drew w8) (hc : ChAt w8 C R n (fun i => (r9 i : Int)) core9 a9) (hz : ∀ i, i < core9 → r9 i = 0)
    (hb : Below w8.heap.size w8 w9) (hp : PlsIn (fun b => w8.heap.size ≤ b) w9 v9 l9) (hl : base ≤ w7.heap.size ∧ ∀ i, i < 16 → rmN n m l9 i = r9 i) : SpSt n m base F C R w6 (w9.setRow F #[.int .i64 n, .int .u32 m, v9]) v9 l9 core9 a9 := by
  obtain ⟨hl1, hl3⟩ := hl
  have hF := h.box9 ha hb
  have hs : w7.heap.size ≤ w8.heap.size := ha.size
  have hlt := heap_lt h.box
  have hcl := heap_lt h.ch.box
  have hrl := heap_lt h.ch.row
  have hc9 := hc.keep hb
  refine ⟨?_, setRow_heap _ _ _ _ _ _ hF, ?_, ?_, fun i hi => (by
    rcases Nat.lt_or_ge i 16 with h16 | h16
    · rw [hl3 i h16]; exact hz i hi
    · exact rm_out h16), h.fc⟩
  · refine ((h.apart.trans (F' := fun b => b = C ∨ b = R) (⟨ha.os, ha.tape, ha.output, ha.size, ha.block⟩ : Apart (fun b => b = C ∨ b = R) w7 w8) fun _ _ e => .inr e).trans (Apart.of_below (F := fun _ => False) hb) fun _ _ e => e.elim).trans (F' := fun b => b = F) ⟨rfl, rfl, rfl, by simp, fun k _ hne => setRow_other _ _ _ _ hne⟩ fun _ _ e => .inl e
  · exact (PlsIn.setRow hp (N := F) (.inl (by omega))).mono fun b _ hb' => ⟨by omega, by omega, by omega, by omega⟩
  · exact ChAt.congr (g := fun i => (r9 i : Int)) ⟨(setRow_other _ _ _ _ (Ne.symm h.fc.1)).trans hc9.box, (setRow_other _ _ _ _ (Ne.symm h.fc.2)).trans hc9.row, hc9.ne⟩ fun i hi => by rw [hl3 i hi]
/-- What Split answers. -/
def RetSplit (f : Int) (m : Nat) (l : List Pl) (ws : List Sp) (w : World) (e : Ending) (w' : World) : Prop := ∃ E : Int, Why19 f m l ws E ∧ Below w.heap.size w w' ∧
  ((E = 0 ∧ ∃ v, e = .returned (.tuple #[planA f m v, .int .i64 0]) ∧ PlsIn (fun b => w.heap.size ≤ b) w' v (chT f m l ws).1) ∨
   (E ≠ 0 ∧ e = .returned (.tuple #[planA 0 0 (.slice none 0 0), .int .i64 E])))
theorem dropT_zero {f : Int} {m : Nat} {l : List Pl} (h : Right f m l) : dropT l 0 = l := drop_absent fun x hx => by
  have := isU_range (h.place x hx).unit
  omega

set_option maxRecDepth 100000 in
set_option maxHeartbeats 8000000 in
theorem split_any (f : Int) (m : Nat) (v : Value) (l : List Pl) (vw : Value) (ws : List Sp) (w : World) (h : PlsAt w v l) (hL : LightL l) (hw : SpansAt w vw ws) (hi : IntsS ws) (hm : m < 4294967296) (hl : l.length + ws.length ≤ 300) :
    Calls Tryz.prog 40 #[planA f m v, vw] w (RetSplit f m l ws w) := by
  have mixed : Tryz.prog.follows .mixedOrders = true := by kernel_rfl
  have HCK := Lib.hid (fun w h hw => chCheck_any f m v l vw ws w h hL hw hi hm (by omega))
  have HRO0 := Lib.hid (fun w h => chRooms_any f m v l w h hL hm)
  have HDR := Lib.hid (fun w h => planDrop_any f m v l 0 w h (by omega) (fun x hx => (hL.ok x hx).2))
  have HOK := Lib.hid hL.ok
  have HH := Lib.hid h
  have HW := Lib.hid hw
  have HLL := Lib.hid hl
  unfold planA at HCK HDR HRO0
  unfold RetRow planA at HDR
  obtain ⟨w1, P, hw1, hP, hPl, hb1, hbox⟩ := box_any w #[.int .i64 f, .int .u32 m, v] 26
  obtain ⟨w2, Q, hw2, hQ, hQl, hb2, hrox⟩ := box_any w1 #[.int .i64 0, .int .u32 0, .slice none 0 0] 26
  have HB2 := Lib.hid (hb1.trans (hb2.mono hb1.size))
  have HPB := Lib.hid (keep_block hbox hb2)
  have HQB := Lib.hid hrox
  have HLT := Lib.hid (show w.heap.size ≤ P ∧ P < Q ∧ Q < w2.heap.size by have := hb1.size; omega)
  obtain ⟨p0, p1, p2⟩ := three_heads HPB.out
  clear h hL hw hi hl hb1 hb2 hbox hrox
  unfold planA
  go_enter Tryz.func40, Tryz.ntmps40
  go_wp2_with fail
  refine (HCK.out _ (HH.out.keep HB2.out) (HW.out.keep HB2.out)).mono ?_
  rintro e w3 ⟨E, rfl, hwhy, hb3⟩
  have HWH := Lib.hid hwhy
  have HB3 := Lib.hid (HB2.out.trans (hb3.mono HB2.out.size))
  have HPB3 := Lib.hid (keep_block HPB.out hb3)
  have HQB3 := Lib.hid (keep_block HQB.out hb3)
  clear hb3 hwhy p0 p1 p2 hw1 hP hw2 hQ
  obtain ⟨p0, p1, p2⟩ := three_heads HPB3.out
  by_cases he : E = 0
  · subst he
    have hg := HWH.out.zero
    have HR := Lib.hid hg.goes.right
    obtain ⟨n, rfl⟩ : ∃ n : Nat, f = n := ⟨f.toNat, by have := HR.out.f2; omega⟩
    have HS : Hid (∀ W', Below w3.heap.size w3 W' → W'.cell? ⟨P, 0, none⟩ = some (.int .i64 n) ∧ W'.cell? ⟨P, 1, none⟩ = some (.int .u32 m) ∧ W'.cell? ⟨P, 2, none⟩ = some v) := Lib.hid fun W' hb => three_heads (keep_block HPB3.out hb)
    have HK3 := Lib.hid (Below.refl w3.heap.size w3)
    have HRO : Hid (∀ W', Below w3.heap.size w3 W' → Calls Tryz.prog 55 #[.agg #[.int .i64 n, .int .u32 m, v]] W' (RetRooms n m l W')) := Lib.hid fun W' hb => HRO0.out _ (HH.out.keep (HB3.out.trans (hb.mono HB3.out.size)))
    have HG := Lib.hid hg
    clear hg HRO0
    go_upto_region 4 with fail
    go_cut [7] from 18 to 22 (fun s7 wx => ∃ C R : Nat, s7 = .pointer (some ⟨C, 0, none⟩) ∧ ChAt wx C R n (fun i => roomN n m l (i : Int)) 0 0 ∧ w3.heap.size ≤ C ∧ w3.heap.size ≤ R ∧ Below w3.heap.size w3 wx)
    case first =>
      as_aux_lemma =>
        refine wp_region_held_drew (S := fun w' => w'.cell? ⟨P, 0, none⟩ = some (.int .i64 n) ∧ w'.cell? ⟨P, 1, none⟩ = some (.int .u32 m) ∧ w'.cell? ⟨P, 2, none⟩ = some v) (by kernel_rfl) ?_ (fun hHeld => ?_)
        · exact HS.out _ HK3.out.drew
        refine wpAnyH_take (i := 0) (oi := ⟨some 18, _, _, _, _, _⟩) (v := ?_) rfl (by kernel_rfl) (by kernel_rfl) (by kernel_rfl) (fun _ _ _ h => h) (Or.inl ⟨by kernel_rfl, ?_⟩) (by assumption) ?_
        rotate_left
        · (intro w hSw; (try dsimp only at hSw); go_simp; try with_reducible rfl)
        (try simp only [Act.put, List.setIfInBounds_toArray, List.set_cons_zero, List.set_cons_succ])
        refine wpAnyH_take (i := 1) (oi := ⟨some 19, _, _, _, _, _⟩) (v := ?_) rfl (by kernel_rfl) (by kernel_rfl) (by kernel_rfl) (fun _ _ _ h => h) (Or.inl ⟨by kernel_rfl, ?_⟩) (by assumption) ?_
        rotate_left
        · (intro w hSw; (try dsimp only at hSw); go_simp; try with_reducible rfl)
        (try simp only [Act.put, List.setIfInBounds_toArray, List.set_cons_zero, List.set_cons_succ])
        refine wpAnyH_take (i := 2) (oi := ⟨some 20, _, _, _, _, _⟩) (v := ?_) rfl (by kernel_rfl) (by kernel_rfl) (by kernel_rfl) (fun _ _ _ h => h) (Or.inl ⟨by kernel_rfl, ?_⟩) (by assumption) ?_
        rotate_left
        · (intro w hSw; (try dsimp only at hSw); go_simp; try with_reducible rfl)
        (try simp only [Act.put, List.setIfInBounds_toArray, List.set_cons_zero, List.set_cons_succ])
        refine wpAnyH_ready (rs := [3, 5]) (by kernel_rfl) (by simp) ?_
        refine AllReadyH.cons (o := ⟨some 21, _, _, _, _, _⟩) rfl (fun K hK => ?_) (AllReadyH.cons (o := ⟨some 7, _, _, _, _, _⟩) rfl (fun K hK => ?_) AllReadyH.nil)
        · rw [if_pos (by kernel_rfl)]
          go_simp
          go_at_call 55; refine (HRO.out _ HK3.out.drew).mono ?_; rintro en wx1 ⟨hx1, hro⟩
          obtain ⟨_, R, rfl, hRl, hrow⟩ := hro.resolve_right fun h => h.1 HR.out
          have hk1 := HK3.out.drew.trans (hx1.mono HK3.out.drew.size)
          refine hK.out _ _ ?_ (fun hHeld => ?_)
          · exact HS.out _ hk1
          clear hK K
          (try simp only [Act.put, List.setIfInBounds_toArray, List.set_cons_zero, List.set_cons_succ])
          refine wpAnyH_take (i := 4) (oi := ⟨some 22, _, _, _, _, _⟩) (v := ?_) rfl (by kernel_rfl) (by kernel_rfl) (by kernel_rfl) (fun _ _ _ h => h) (Or.inl ⟨by kernel_rfl, ?_⟩) (by assumption) ?_
          rotate_left
          · (intro w hSw; (try dsimp only at hSw); go_simp; try with_reducible rfl)
          (try simp only [Act.put, List.setIfInBounds_toArray, List.set_cons_zero, List.set_cons_succ])
          refine wpAnyH_ready (rs := [5]) (by kernel_rfl) (by simp) ?_
          refine AllReadyH.cons (o := ⟨some 7, _, _, _, _, _⟩) rfl (fun K hK => ?_) AllReadyH.nil
          obtain ⟨wx2, C, hwC, hC, hCl, hx2, hcb⟩ := box_any wx1 #[.int .i64 0, .slice none 0 0, .int .i64 0, .int .i64 0] 133
          rw [if_pos (by kernel_rfl)]
          go_simp
          have hk2 := hk1.trans (hx2.mono hk1.size)
          refine hK.out _ _ ?_ (fun hHeld => ?_)
          · exact HS.out _ hk2
          clear hK K
          (try simp only [Act.put, List.setIfInBounds_toArray, List.set_cons_zero, List.set_cons_succ])
          clear hwC
          have hcl : C = wx1.heap.size := hC.symm
          clear hC
          have hne : R ≠ C := by have := heap_lt hrow; omega
          have hrow := keep_block hrow hx2
          have hClo : w3.heap.size ≤ C := by have := hk1.size; omega
          have hRlo : w3.heap.size ≤ R := hRl
          refine wpAnyH_ready (rs := [6]) (by kernel_rfl) (by simp) ?_
          refine AllReadyH.cons (o := ⟨none, _, _, _, _, _⟩) rfl (fun K hK => ?_) AllReadyH.nil
          refine step_store_row16 rfl _ _ _ rfl C #[.int .i64 n, .slice (some ⟨R, 0, none⟩) 16 16, .int .i64 0, .int .i64 0] (by simp [Act.eval, Act.put]) (by simp [Act.eval, Act.put]) 133 _ hcb Tryz.sizeCh rfl (by simp [Value.oneCell']) ?_
          have hkz := below_row hk2 hClo #[.int .i64 n, .slice (some ⟨R, 0, none⟩) 16 16, .int .i64 0, .int .i64 0]
          refine hK.out _ _ ?_ (fun hHeld => ?_)
          · exact HS.out _ hkz
          clear hK K
          (try simp only [Act.put, List.setIfInBounds_toArray, List.set_cons_zero, List.set_cons_succ])
          refine wpAnyH_done (by kernel_rfl) ?_ _
          go_wp2_with fail
          go_meet
          exact ⟨C, R, rfl, ⟨setRow_heap _ _ _ _ _ _ hcb, (setRow_other _ _ _ _ hne).trans hrow, hne⟩, hClo, hRlo, hkz⟩
        · obtain ⟨wx1, C, hwC, hC, hCl, hx1, hcb⟩ := box_any w3.drew #[.int .i64 0, .slice none 0 0, .int .i64 0, .int .i64 0] 133
          rw [if_pos (by kernel_rfl)]
          go_simp
          have hk1 := HK3.out.drew.trans (hx1.mono HK3.out.drew.size)
          refine hK.out _ _ ?_ (fun hHeld => ?_)
          · exact HS.out _ hk1
          clear hK K
          (try simp only [Act.put, List.setIfInBounds_toArray, List.set_cons_zero, List.set_cons_succ])
          clear hwC
          have hClo : w3.heap.size ≤ C := by rw [← hC]; exact Nat.le_refl _
          clear hC
          refine wpAnyH_ready (rs := [3]) (by kernel_rfl) (by simp) ?_
          refine AllReadyH.cons (o := ⟨some 21, _, _, _, _, _⟩) rfl (fun K hK => ?_) AllReadyH.nil
          rw [if_pos (by kernel_rfl)]
          go_simp
          go_at_call 55; refine (HRO.out _ hk1).mono ?_; rintro en wx2 ⟨hx2, hro⟩
          obtain ⟨_, R, rfl, hRl, hrow⟩ := hro.resolve_right fun h => h.1 HR.out
          have hk2 := hk1.trans (hx2.mono hk1.size)
          refine hK.out _ _ ?_ (fun hHeld => ?_)
          · exact HS.out _ hk2
          clear hK K
          (try simp only [Act.put, List.setIfInBounds_toArray, List.set_cons_zero, List.set_cons_succ])
          refine wpAnyH_take (i := 4) (oi := ⟨some 22, _, _, _, _, _⟩) (v := ?_) rfl (by kernel_rfl) (by kernel_rfl) (by kernel_rfl) (fun _ _ _ h => h) (Or.inl ⟨by kernel_rfl, ?_⟩) (by assumption) ?_
          rotate_left
          · (intro w hSw; (try dsimp only at hSw); go_simp; try with_reducible rfl)
          (try simp only [Act.put, List.setIfInBounds_toArray, List.set_cons_zero, List.set_cons_succ])
          have hne : R ≠ C := by omega
          have hRlo : w3.heap.size ≤ R := by have := hk1.size; omega
          have hcb := keep_block hcb hx2
          refine wpAnyH_ready (rs := [6]) (by kernel_rfl) (by simp) ?_
          refine AllReadyH.cons (o := ⟨none, _, _, _, _, _⟩) rfl (fun K hK => ?_) AllReadyH.nil
          refine step_store_row16 rfl _ _ _ rfl C #[.int .i64 n, .slice (some ⟨R, 0, none⟩) 16 16, .int .i64 0, .int .i64 0] (by simp [Act.eval, Act.put]) (by simp [Act.eval, Act.put]) 133 _ hcb Tryz.sizeCh rfl (by simp [Value.oneCell']) ?_
          have hkz := below_row hk2 hClo #[.int .i64 n, .slice (some ⟨R, 0, none⟩) 16 16, .int .i64 0, .int .i64 0]
          refine hK.out _ _ ?_ (fun hHeld => ?_)
          · exact HS.out _ hkz
          clear hK K
          (try simp only [Act.put, List.setIfInBounds_toArray, List.set_cons_zero, List.set_cons_succ])
          refine wpAnyH_done (by kernel_rfl) ?_ _
          go_wp2_with fail
          go_meet
          exact ⟨C, R, rfl, ⟨setRow_heap _ _ _ _ _ _ hcb, (setRow_other _ _ _ _ hne).trans hrow, hne⟩, hClo, hRlo, hkz⟩
    case rest =>
      obtain ⟨C, R, rfl, hch, hCl, hRl, hb4⟩ := hcut
      have hdz := dropT_zero HR.out
      rw [hdz] at HDR
      have HB4 := Lib.hid (HB3.out.trans (hb4.mono HB3.out.size))
      have HCH := Lib.hid hch
      have HQB4 := Lib.hid (keep_block HQB3.out hb4)
      have HCR := Lib.hid (And.intro hCl hRl)
      obtain ⟨q0, q1, q2⟩ := HS.out _ hb4
      clear p0 p1 p2 hch hCl hRl hb4 hdz
      go_wp2_with fail
      refine (HDR.out _ (HH.out.keep HB4.out)).mono ?_
      rintro e w5 ⟨v5, ls, rfl, hls, hrow, hb5⟩
      have HB5 := Lib.hid (HB4.out.trans (hb5.mono HB4.out.size))
      have hpl5 := pls_of_own hrow.own hrow.pcs
      rw [hls] at hpl5
      have HPL5 := Lib.hid (hpl5.mono (G := fun b => wc.heap.size ≤ b) fun b _ hF => hF.elim (fun h => h.1) id)
      have HQB5 := Lib.hid (keep_block HQB4.out hb5)
      have HCH5 := Lib.hid (HCH.out.keep hb5)
      have hs5 := hb5.size
      obtain ⟨A5, c5, hv5⟩ := own_form hrow.own
      obtain ⟨n5, hn5⟩ : ∃ n5, ls.length = n5 := ⟨_, rfl⟩
      rw [hn5] at hv5
      subst hv5
      clear hls hrow hb5 hpl5 hn5 q0 q1 q2
      obtain ⟨wz, F, hwz, hF, hFl, hbz, hfz⟩ := box_any w5 #[.int .i64 0, .int .u32 0, .slice none 0 0] 26
      have HFZ := Lib.hid hfz
      obtain ⟨w6, hw6⟩ : ∃ w6, wz.setRow F #[.int .i64 n, .int .u32 m, .slice A5 n5 c5] = w6 := ⟨_, rfl⟩
      have hb6 : Below w5.heap.size w5 w6 := by rw [← hw6]; exact below_row hbz (by omega) _
      have HB6 := Lib.hid (HB5.out.trans (hb6.mono HB5.out.size))
      have HFB6 : Hid (w6.heap[F]? = some (.cells #[.int .i64 n, .int .u32 m, .slice A5 n5 c5] 26 (0, 0))) := Lib.hid (by rw [← hw6]; exact setRow_heap _ _ _ _ _ _ hfz)
      have HQB6 := Lib.hid (keep_block HQB5.out hb6)
      have hCw := heap_lt HCH.out.box
      have hRw := heap_lt HCH.out.row
      have hQw := heap_lt HQB4.out
      have hF6 := heap_lt HFB6.out
      have h6s := hb6.size
      have h3s := HB4.out.size
      have HLT6 := Lib.hid (show C < F ∧ R < F ∧ Q < F ∧ F < w6.heap.size ∧ Q < w3.heap.size ∧ w3.heap.size ≤ F ∧ wc.heap.size ≤ F by have := heap_lt HQB3.out; have := HCR.out; omega)
      have HST0 : Hid (SpSt n m wc.heap.size F C R w6 w6 (.slice A5 n5 c5) (chT n m l (ws.take 0)).1 0 (chT n m l (ws.take 0)).2) := Lib.hid (by
        rw [List.take_zero]
        exact ⟨Apart.refl _ _, HFB6.out, ((HPL5.out.mono (G := fun b => wc.heap.size ≤ b ∧ b ≠ F ∧ b ≠ C ∧ b ≠ R) fun b hb h => ⟨h, by omega, by omega, by omega⟩).keep hb6), (HCH5.out.keep hb6).congr fun i hi => ((HR.out.rm hi).1).symm, fun i hi => absurd hi (Nat.not_lt_zero _), by omega, by omega⟩)
      obtain ⟨Aw, cw, rfl, hcw1, hcw3, hcw2, hat⟩ := HW.out
      have HAT := Lib.hid hat
      obtain ⟨k1, hk1⟩ : ∃ k1, ws.length = k1 := ⟨_, rfl⟩
      have HNW := Lib.hid hk1
      rw [hk1] at HAT HW hcw1 hcw3 ⊢
      clear hb6 hbz hfz hs5 hCw hRw hQw hF6 h6s h3s hat hk1 hcw2 HCK
      go_wp2_with (refine wpList_store_row rfl _ _ _ rfl F #[.int .i64 n, .int .u32 m, .slice A5 n5 c5] rfl rfl 26 _ HFZ.out (Tryz.sizePn _ _ _) rfl (one3 _ _ _ _ _) ?_)
      clear hw6 hwz hF
      go_loopg [27] k1 (fun gg s27 wr => ∃ (k core : Nat) (vp : Value), k ≤ k1 ∧ gg = k1 - k ∧ s27 = .int .i64 k ∧ SpSt n m wc.heap.size F C R w6 wr vp (chT n m l (ws.take k)).1 core (chT n m l (ws.take k)).2)
      case atStart => exact ⟨0, 0, _, Nat.zero_le _, by omega, rfl, HST0.out⟩
      case round =>
        obtain ⟨k, core, vp, hk, hg, rfl, hst⟩ := hrel
        have HGS := Lib.hid hg
        by_cases hlt : k < k1
        · have hltz : (k : Int) < (k1 : Int) := by omega
          have hk0 : (0 : Int) ≤ (k : Int) := by omega
          obtain ⟨y, hy⟩ := ex_at (xs := ws) (k := k) (by rw [HNW.out]; exact hlt)
          have hinv := HG.out.inv k (by have := HNW.out; omega)
          have hlen := hinv.len
          rw [List.length_take, Nat.min_eq_left (by have := HNW.out; omega)] at hlen
          have hwok := (WOk.of_chk HG.out.goes.chk).2
          obtain ⟨hyu, hy1, hy2⟩ := hwok.all y (List.mem_of_getElem? hy)
          have hstep := chT_take (f := n) (m := m) (l := l) hy
          have hnx := HG.out.inv (k + 1) (by have := HNW.out; omega)
          have hfr := hinv.free
          have hroom := HG.out.room
          have hsle := sum_take_le ws (k + 1) fun v hv => by have := hwok.all v hv; omega
          rw [List.take_add_one, hy, Option.toList_some, sumS_append, show sumS [y] = y.2 by simp [sumS]] at hsle
          have htk : ws.take (k + 1) = ws.take k ++ [y] := by rw [List.take_add_one, hy, Option.toList_some]
          have hwf : WOk n (ws.take k ++ [y]) := by
            rw [← htk]
            exact WOk.front (b := ws.drop (k + 1)) (by rw [List.take_append_drop]; exact hwok)
          have hny : ∀ z ∈ (chT n m l (ws.take k)).1, z.u ≠ y.1 := fun z hz => by
            rcases hinv.units z hz with h | ⟨v, hv, he⟩
            · exact anyB_no HG.out.goes.none z h y (List.mem_of_getElem? hy)
            · rw [← he]
              exact hwf.last v hv
          obtain ⟨b0, off, hA, hbl, hcell⟩ := HAT.out (by omega)
          subst hA
          obtain ⟨c1, c2⟩ := (hcell k y hy).keep HB6.out hbl
          have hb0 : b0 < w6.heap.size := Nat.lt_of_lt_of_le hbl HB6.out.size
          have hb0n : ¬ (b0 = F ∨ b0 = C ∨ b0 = R) := by have h1 := HLT6.out; have h2 := HCR.out; have h3 := HB3.out.size; omega
          have hblk := hst.apart.block b0 hb0 hb0n
          have c1 := (cell_same hblk (off + k * 2)).trans c1
          have c2 := (cell_same hblk (off + k * 2 + 1)).trans c2
          obtain ⟨w7, N, hw7, hN, hNl, hb7, hnb⟩ := box_any wr #[.int .i64 y.1, .int .i64 y.2] 52
          have hst7 := hst.keep hb7
          obtain ⟨L, a, hLa⟩ : ∃ L a, chT n m l (ws.take k) = (L, a) := ⟨_, _, rfl⟩
          rw [hLa] at hinv hlen hstep hfr hst hst7 hny
          simp only at hinv hlen hfr hst hst7 hny
          have hrdy : Ready n m L a := hinv.ready
          have hRL := hrdy.right
          have hta := hrdy.tick
          rw [Int.toNat_natCast] at hta
          have hf2 := hRL.f2
          have hf64 := hRL.f64
          obtain ⟨s, hs⟩ : ∃ s, y.2.toNat = s := ⟨_, rfl⟩
          have hsy : (s : Int) = y.2 := by omega
          obtain ⟨r, hr⟩ : ∃ r, rmN n m L = r := ⟨_, rfl⟩
          have hsum : s ≤ sumTo r 16 := by
            have q := rm_free hRL 16 (Nat.le_refl _)
            rw [hr] at q
            omega
          have hrn : ∀ i, i < 16 → r i ≤ n := fun i hi => by
            have := (hRL.rm hi).2.1
            rw [hr, Int.toNat_natCast] at this
            exact this
          have hch7 : ChAt w7.drew C R n (fun i => (r i : Int)) core a := by rw [← hr]; exact hst7.ch.drew
          have HPLC : Hid (Calls Tryz.prog 83 #[.pointer (some ⟨C, 0, none⟩), .agg #[.int .i64 y.1, .int .i64 y.2]] w7.drew (RetPlace C R n a r y.1 s w7.drew)) := Lib.hid (by
            have h := chPlace_any w7.drew C R n a core r y.1 s hch7 (by omega) (by omega) hta hrn (fun i hi => by rw [← hr]; exact hst7.zero i hi) (by omega) (by omega) hsum
            rw [hsy] at h
            exact h)
          obtain ⟨xp, hxp⟩ : ∃ xp, placeX n a r y.1 s = xp := ⟨_, rfl⟩
          have HXD := Lib.hid hxp
          have hstep2 : chT n m l (ws.take (k + 1)) = (addU L xp, placeT n a r s) := by
            rw [hstep, chS_place hy1, hr, hs, hxp]
          have HS1 := Lib.hid hstep2
          have hnL : ∀ i, i < 16 → rmN n m (addU L xp) i = placeR r s i := fun i hi => by
            rw [← hxp]
            by_cases hc : s ≤ r (curN r)
            · have hw := (hrdy.whole (w := y) hny hyu hy1 hy2 (by rw [hs, hr]; exact hc)).2 i hi
              rw [hr, hs] at hw
              unfold placeX placeR
              rw [if_pos hc, if_pos hc, hsy]
              exact hw
            · have hw := (hrdy.split (w := y) hny hyu hy1 hy2 (by rw [hs, hr]; exact hc) (by rw [hs, hr]; exact hsum)).2.1 i hi
              unfold splP at hw
              rw [hr, hs, Int.toNat_natCast] at hw
              unfold placeX placeR
              rw [if_neg hc, if_neg hc, hsy]
              exact hw
          have HNL : Hid (wc.heap.size ≤ w7.heap.size ∧ ∀ i, i < 16 → rmN n m (putPl (dropT L xp.u) xp (posU (dropT L xp.u) xp.u)) i = placeR r s i) := Lib.hid ⟨by have h1 := HLT6.out; have h2 := hst7.apart.size; omega, hnL⟩
          have HLE := Lib.hid (show L.length ≤ 999 by have := HLL.out; have := HNW.out; omega)
          have HPO : Hid (∀ z ∈ L, z.ps.length ≤ 1000) := Lib.hid fun z hz => (hinv.ok HOK.out z hz).2
          have HXO : Hid (xp.ps.length ≤ 1000) := Lib.hid (by
            rw [← hxp]
            unfold placeX
            split
            · simp
            · exact Nat.le_trans pcsA_few (by omega))
          have HAS := Lib.hid (dropT_asc hRL.pairs xp.u)
          have hNC : ¬ (N = C ∨ N = R) ∧ N ≠ F := by have h1 := heap_lt hst.ch.box; have h2 := heap_lt hst.ch.row; have h3 := heap_lt hst.box; omega
          have HSN : Hid (∀ W', Apart (fun b => b = C ∨ b = R) w7.drew W' → W'.cell? ⟨N, 0, none⟩ = some (.int .i64 y.1) ∧ W'.cell? ⟨N, 1, none⟩ = some (.int .i64 y.2)) := Lib.hid fun W' ha => two_heads ((ha.block N (heap_lt hnb) hNC.1).trans hnb)
          have HSF : Hid (∀ W', Apart (fun b => b = C ∨ b = R) w7.drew W' → W'.cell? ⟨F, 0, none⟩ = some (.int .i64 n) ∧ W'.cell? ⟨F, 1, none⟩ = some (.int .u32 m) ∧ W'.cell? ⟨F, 2, none⟩ = some vp) := Lib.hid fun W' ha => three_heads ((ha.block F (heap_lt hst7.box) fun e => by rcases e with e | e; exact hst7.fc.1 e; exact hst7.fc.2 e).trans hst7.box)
          have HSS : Hid (∀ W' cs, Apart (fun b => b = C ∨ b = R) w7.drew W' → (W'.setRow F cs).cell? ⟨N, 0, none⟩ = some (.int .i64 y.1) ∧ (W'.setRow F cs).cell? ⟨N, 1, none⟩ = some (.int .i64 y.2)) := Lib.hid fun W' cs ha => two_heads ((setRow_other _ _ _ _ hNC.2).trans ((ha.block N (heap_lt hnb) hNC.1).trans hnb))
          have hax0 : Apart (fun b => b = C ∨ b = R) w7.drew w7.drew := Apart.refl _ _
          have HST7 := Lib.hid hst7
          obtain ⟨n0, n1⟩ := two_heads hnb
          clear hg hst hst7 hinv hlen hstep hnx hfr hroom hsle htk hwf hny hwok hcell hblk hb7 hnb hrdy hRL hta hrn hch7 hxp hstep2 hnL hr hs hsum hLa hNC hb0n hyu hf2 hf64
          go_wp2_with fail
          refine wp_region_N (S1 := fun w' => w'.cell? ⟨N, 0, none⟩ = some (.int .i64 y.1) ∧ w'.cell? ⟨N, 1, none⟩ = some (.int .i64 y.2)) (S2 := fun w' => w'.cell? ⟨F, 0, none⟩ = some (.int .i64 n) ∧ w'.cell? ⟨F, 1, none⟩ = some (.int .u32 m) ∧ w'.cell? ⟨F, 2, none⟩ = some vp) (N := fun i => i != 4) (by kernel_rfl) ?_
          change wpAnyN _ _ _ _ _ _ _ 5 (Array.replicate 5 false) _ _
          refine wpAnyN_take true (i := 0) (oi := ⟨some 31, _, _, _, _, _⟩) (v := ?_) rfl (by kernel_rfl) (by kernel_rfl) (by kernel_rfl) (fun _ _ _ h => h) (Or.inl ⟨by kernel_rfl, ?_⟩) ⟨HSN.out _ hax0, fun _ => HSF.out _ hax0⟩ ?_
          rotate_left
          · (intro w hSw; obtain ⟨hSa, hSb⟩ := hSw; have hSc := hSb rfl; clear hSb; (try dsimp only at hSa hSc); go_simp; try with_reducible rfl)
          (try simp only [Act.put, List.setIfInBounds_toArray, List.set_cons_zero, List.set_cons_succ])
          refine wpAnyN_take false (i := 1) (oi := ⟨some 32, _, _, _, _, _⟩) (v := ?_) rfl (by kernel_rfl) (by kernel_rfl) (by kernel_rfl) (fun _ _ _ h => h) (Or.inl ⟨by kernel_rfl, ?_⟩) ⟨HSN.out _ hax0, fun h => (by cases h)⟩ ?_
          rotate_left
          · (intro w hSw; obtain ⟨hSa, hSb⟩ := hSw; clear hSb; (try dsimp only at hSa); go_simp; try with_reducible rfl)
          (try simp only [Act.put, List.setIfInBounds_toArray, List.set_cons_zero, List.set_cons_succ])
          refine wpAnyN_step (i := 2) (by kernel_rfl) rfl (by kernel_rfl) ?_
          intro K' hK
          (try simp only [Act.put, List.setIfInBounds_toArray, List.set_cons_zero, List.set_cons_succ])
          go_simp
          go_at_call 83; refine HPLC.out.mono ?_; rintro en w8 ⟨vx, co2, rfl, hpx, hcx, hzx, hax⟩
          obtain ⟨Ax, dx, hvx⟩ := hpx.form
          rw [HXD.out] at hpx hvx ⊢
          obtain ⟨nx, hnx⟩ : ∃ nx, xp.ps.length = nx := ⟨_, rfl⟩
          rw [hnx] at hvx
          subst hvx
          refine hK.out _ _ (HSN.out _ hax) (fun _ _ => (HSF.out _ hax)) ?_
          clear hK K'
          (try simp only [Act.put, List.setIfInBounds_toArray, List.set_cons_zero, List.set_cons_succ])
          have HPU8 := Lib.hid (planPut_any n m vp (.slice Ax nx dx) L xp w8 (HST7.out.pls8 hax) hpx.any HLE.out HPO.out HXO.out (posU (dropT L xp.u) xp.u) (posU_at _ _ HAS.out))
          unfold planA plA RetPn planA at HPU8
          unfold plA
          refine wpAnyN_step (i := 3) (by kernel_rfl) rfl (by kernel_rfl) ?_
          intro K' hK
          (try simp only [Act.put, List.setIfInBounds_toArray, List.set_cons_zero, List.set_cons_succ])
          go_simp
          go_at_call 81; refine HPU8.out.mono ?_; rintro en w9 ⟨v9, rfl, hpl9, hb9⟩
          obtain ⟨A9, c9, hv9, _, _⟩ := hpl9.form
          obtain ⟨n9, hn9⟩ : ∃ n9, (putPl (dropT L xp.u) xp (posU (dropT L xp.u) xp.u)).length = n9 := ⟨_, rfl⟩
          rw [hn9] at hv9
          subst hv9
          have hax9 := hax.trans (Apart.of_below (F := fun b => b = C ∨ b = R) hb9) fun _ _ e => e
          refine hK.out _ _ (HSN.out _ hax9) (fun _ _ => (HSF.out _ hax9)) ?_
          clear hK K'
          (try simp only [Act.put, List.setIfInBounds_toArray, List.set_cons_zero, List.set_cons_succ])
          have HST9 := Lib.hid (HST7.out.put hax hcx hzx hb9 hpl9 HNL.out)
          refine wpAnyN_step (i := 4) (by kernel_rfl) rfl (by kernel_rfl) ?_
          intro K' hK
          (try simp only [Act.put, List.setIfInBounds_toArray, List.set_cons_zero, List.set_cons_succ])
          refine wp_store_row _ _ _ rfl F #[.int .i64 n, .int .u32 m, .slice A9 n9 c9] (by simp [Act.eval, Act.put]) (by simp [Act.eval, Act.put]) 26 _ (HST7.out.box9 hax hb9) (Tryz.sizePn _ _ _) rfl (one3 _ _ _ _ _) ?_
          refine hK.out _ _ (HSS.out _ _ hax9) (fun h => by cases h) ?_
          clear hK K'
          (try simp only [Act.put, List.setIfInBounds_toArray, List.set_cons_zero, List.set_cons_succ])
          refine wpAnyN_done (by kernel_rfl) ?_
          clear hax hcx hzx hb9 hpl9 hax9 hax0 hn9 HPU8 hpx hnx n0 n1
          go_wp2_with fail
          go_roundg (k1 - (k + 1))
          case measure => have := HGS.out; omega
          case rel =>
            refine ⟨k + 1, co2, .slice A9 n9 c9, by omega, rfl, by go_num, ?_⟩
            rw [HS1.out]
            exact HST9.out
        · have hltz : ¬ (k : Int) < (k1 : Int) := by omega
          have htk : ws.take k = ws := List.take_of_length_le (by rw [HNW.out]; omega)
          rw [htk] at hst
          have hQn : ¬ (Q = F ∨ Q = C ∨ Q = R) := by have := HLT6.out; have := HCR.out; omega
          have HQB7 := Lib.hid ((hst.apart.block Q (heap_lt HQB6.out) hQn).trans HQB6.out)
          have HEND : Hid (RetSplit n m l ws w (.returned (.tuple #[planA n m vp, .int .i64 0])) (wr.setRow Q #[.int .i64 n, .int .u32 m, vp])) := Lib.hid ⟨0, HWH.out, below_row (HB6.out.trans (hst.apart.below HB6.out.size fun b hb e => by have := HLT6.out; have := HCR.out; have := HB3.out.size; omega)) (by have := HLT.out; omega) _, .inl ⟨rfl, vp, rfl,
            (PlsIn.setRow hst.pls (.inl fun h => by have := h.1; have := heap_lt HQB4.out; omega)).mono fun b _ h => by have := h.1; have := HB4.out.size; omega⟩⟩
          obtain ⟨Av, cv, hvv, _, _⟩ := hst.pls.form
          obtain ⟨nv, hnv⟩ : ∃ nv, (chT n m l ws).1.length = nv := ⟨_, rfl⟩
          rw [hnv] at hvv
          subst hvv
          obtain ⟨f0, f1, f2⟩ := three_heads hst.box
          clear hg hst hnv htk
          go_wp2_with (refine wpList_store_row rfl _ _ _ rfl Q #[.int .i64 n, .int .u32 m, .slice Av nv cv] rfl rfl 26 _ HQB7.out (Tryz.sizePn _ _ _) rfl (one3 _ _ _ _ _) ?_)
          refine bodyPost_ret (v := .tuple #[planA n m (.slice Av nv cv), .int .i64 0]) (results_row_tmp rfl _ _ Q _ _ _ _ rfl (setRow_heap _ _ _ _ _ _ HQB7.out) Tryz.underlying26 rfl (Tryz.sizePn _ _ _) _ rfl) rfl ?_
          exact HEND.out
  · have hb0 : (E != 0) = true := by simpa using he
    have HE := Lib.hid he
    clear he
    go_wp2_with (refine wpList_store_row rfl _ _ _ rfl Q #[.int .i64 0, .int .u32 0, .slice none 0 0] rfl rfl 26 _ HQB3.out (Tryz.sizePn _ _ _) rfl (one3 _ _ _ _ _) ?_)
    refine bodyPost_ret (v := .tuple #[planA 0 0 (.slice none 0 0), .int .i64 E]) (results_row_tmp rfl _ _ Q _ _ _ _ rfl (setRow_heap _ _ _ _ _ _ HQB3.out) Tryz.underlying26 rfl (Tryz.sizePn _ _ _) _ rfl) rfl ?_
    exact ⟨E, HWH.out, below_row HB3.out (by have := HLT.out; omega) _, .inr ⟨HE.out, rfl⟩⟩
end Go.Proofs.YtpfpojehcjmfnaaGreat

/-
  Full, by contract.
  Conditions: the slice reads as wants; the numbers are of their kinds.
-/
set_option linter.unusedVariables false
set_option linter.unusedSimpArgs false
namespace Go.Proofs.YtpfpojehcjmfnaaGreat
open Go.RowKit

set_option maxRecDepth 100000 in
set_option maxHeartbeats 8000000 in
theorem full_any (f : Int) (m : Nat) (vw : Value) (ws : List Sp) (w : World) (hw : SpansAt w vw ws) (hi : IntsS ws) (hm : m < 4294967296) (hl : ws.length ≤ 300) :
    Calls Tryz.prog 8 #[.int .i64 f, .int .u32 m, vw] w (RetFull f m ws w) := by
  have HFI := Lib.hid (fun W hv => fit_any f m (.slice none 0 0) [] vw ws W (PlsIn.nil _ W) light_nil hv hi hm (show 0 + ws.length ≤ 300 by omega))
  have HSL := Lib.hid (fun (hr : Right f m []) (hc : chkT f ws = 0) v vo W hp hv => split_any f m v (fitT f m [] (sortT ws)).1 vo (fitT f m [] (sortT ws)).2 W hp (fit_light hr hc) hv (fit_ints hr hc hi) hm (by have := fit_lens hr hc; omega))
  have HWY := Lib.hid (fun (hr : Right f m []) (hc : chkT f ws = 0) E => Why20.of (E := E) hr hc)
  have HW := Lib.hid hw
  have HEQ : Hid ((chT f m (fitT f m [] (sortT ws)).1 (fitT f m [] (sortT ws)).2).1 = fullT f m ws) := Lib.hid rfl
  unfold planA at HFI HSL
  obtain ⟨wr, R, hwr, hR, hRl, hbr, hrox⟩ := box_any w #[.int .i64 0, .int .u32 0, .slice none 0 0] 26
  have HBR := Lib.hid hbr
  have HRB := Lib.hid hrox
  have HRL : Hid (w.heap.size ≤ R) := Lib.hid (by omega)
  clear hw hi hm hl hbr hrox
  go_enter Tryz.func8, Tryz.ntmps8
  go_wp2_with fail
  refine (HFI.out wr (HW.out.keep HBR.out)).mono ?_
  rintro e w3 ⟨E, hwhy, hb3, hcase⟩
  have HWH := Lib.hid hwhy
  have HB3 := Lib.hid (HBR.out.trans (hb3.mono HBR.out.size))
  have HR3 := Lib.hid (keep_block HRB.out hb3)
  obtain ⟨w4, Q, hw4, hQ, hQl, hb4, hqb⟩ := box_any w3 #[.int .i64 0, .int .u32 0, .slice none 0 0] 26
  have HQB := Lib.hid hqb
  rcases hcase with ⟨rfl, v, vo, rfl, hpl, hvo⟩ | ⟨hE, rfl⟩
  · have hg := hwhy.zero
    have HSL7 := Lib.hid (HSL.out hg.right hg.chk)
    have HWY7 := Lib.hid (HWY.out hg.right hg.chk)
    generalize (fitT f m [] (sortT ws)).1 = L1 at *
    generalize (fitT f m [] (sortT ws)).2 = W1 at *
    have HPL := Lib.hid hpl.any
    have HVO := Lib.hid hvo
    obtain ⟨A, cA, rfl, _, _⟩ := hpl.form
    obtain ⟨n1, hn1⟩ : ∃ n1, L1.length = n1 := ⟨_, rfl⟩
    rw [hn1] at HPL ⊢
    obtain ⟨w9, hw9⟩ : ∃ w9, w4.setRow Q #[.int .i64 f, .int .u32 m, .slice A n1 cA] = w9 := ⟨_, rfl⟩
    have hb9 : Below w3.heap.size w3 w9 := by rw [← hw9]; exact below_row hb4 (by omega) _
    have HB9 := Lib.hid (HB3.out.trans (hb9.mono HB3.out.size))
    have HQ9 : Hid (w9.heap[Q]? = some (.cells #[.int .i64 f, .int .u32 m, .slice A n1 cA] 26 (0, 0))) := Lib.hid (by rw [← hw9]; exact setRow_heap _ _ _ _ _ _ hqb)
    have HR9 := Lib.hid (keep_block HR3.out hb9)
    have HSL9 := Lib.hid (HSL7.out _ vo w9 (HPL.out.keep hb9) (HVO.out.keep hb9))
    obtain ⟨q0, q1, q2⟩ := three_heads HQ9.out
    clear hb3 hpl hvo hb4 hb9 hqb hn1 hwhy HSL HSL7 HFI HWY hg
    unfold planA
    go_wp2_with (refine wpList_store_row rfl _ _ _ rfl Q #[.int .i64 f, .int .u32 m, .slice A n1 cA] rfl rfl 26 _ HQB.out (Tryz.sizePn _ _ _) rfl (one3 _ _ _ _ _) ?_)
    refine HSL9.out.mono ?_
    rintro e w10 ⟨E, hwhy, hb10, hcase⟩
    have HWE := Lib.hid (HWY7.out _ hwhy)
    have HB10 := Lib.hid (HB9.out.trans (hb10.mono HB9.out.size))
    have HR10 := Lib.hid (keep_block HR9.out hb10)
    rcases hcase with ⟨rfl, v5, rfl, hpl5⟩ | ⟨hE, rfl⟩
    · rw [HEQ.out] at hpl5
      obtain ⟨A5, c5, rfl, _, _⟩ := hpl5.form
      obtain ⟨n5, hn5⟩ : ∃ n5, (fullT f m ws).length = n5 := ⟨_, rfl⟩
      rw [hn5] at hpl5 ⊢
      have HEND : Hid (PlsAt (w10.setRow R #[.int .i64 f, .int .u32 m, .slice A5 n5 c5]) (.slice A5 n5 c5) (fullT f m ws) ∧ Below w.heap.size w (w10.setRow R #[.int .i64 f, .int .u32 m, .slice A5 n5 c5])) := Lib.hid ⟨(PlsIn.setRow (pls_not HR10.out hpl5) (.inl fun h => h.2 rfl)).any, below_row HB10.out HRL.out _⟩
      clear hb10 hpl5 hn5 q0 q1 q2 hw4 hw9 hQ hwhy
      unfold planA
      go_wp2_with (refine wpList_store_row rfl _ _ _ rfl R #[.int .i64 f, .int .u32 m, .slice A5 n5 c5] rfl rfl 26 _ HR10.out (Tryz.sizePn _ _ _) rfl (one3 _ _ _ _ _) ?_)
      refine bodyPost_ret (v := .tuple #[planA f m (.slice A5 n5 c5), .int .i64 0]) (results_row_tmp rfl _ _ R _ _ _ _ rfl (setRow_heap _ _ _ _ _ _ HR10.out) Tryz.underlying26 rfl (Tryz.sizePn _ _ _) _ rfl) rfl ?_
      exact ⟨0, HWE.out, HEND.out.2, .inl ⟨rfl, _, rfl, HEND.out.1⟩⟩
    · have HNE := Lib.hid hE
      have HEND := Lib.hid (below_row HB10.out HRL.out #[.int .i64 0, .int .u32 0, .slice none 0 0])
      clear hb10 q0 q1 q2 hw4 hw9 hQ hwhy hE
      unfold planA
      go_wp2_with (refine wpList_store_row rfl _ _ _ rfl R #[.int .i64 0, .int .u32 0, .slice none 0 0] rfl rfl 26 _ HR10.out (Tryz.sizePn _ _ _) rfl (one3 _ _ _ _ _) ?_)
      refine bodyPost_ret (v := .tuple #[planA 0 0 (.slice none 0 0), .int .i64 E]) (results_row_tmp rfl _ _ R _ _ _ _ rfl (setRow_heap _ _ _ _ _ _ HR10.out) Tryz.underlying26 rfl (Tryz.sizePn _ _ _) _ rfl) rfl ?_
      exact ⟨E, HWE.out, HEND.out, .inr ⟨HNE.out, rfl⟩⟩
  · have HNE := Lib.hid hE
    have HWE := Lib.hid (Why20.fit HWH.out hE)
    have hb0 : (E != 0) = true := by simpa using hE
    obtain ⟨w9, hw9⟩ : ∃ w9, w4.setRow Q #[.int .i64 0, .int .u32 0, .slice none 0 0] = w9 := ⟨_, rfl⟩
    have hb9 : Below w3.heap.size w3 w9 := by rw [← hw9]; exact below_row hb4 (by omega) _
    have HB9 := Lib.hid (HB3.out.trans (hb9.mono HB3.out.size))
    have HR9 := Lib.hid (keep_block HR3.out hb9)
    have HEND := Lib.hid (below_row HB9.out HRL.out #[.int .i64 0, .int .u32 0, .slice none 0 0])
    clear hb3 hb4 hb9 hqb hwhy HSL HFI HWY hE
    unfold planA
    go_wp2_with (first
      | refine wpList_store_row rfl _ _ _ rfl Q #[.int .i64 0, .int .u32 0, .slice none 0 0] rfl rfl 26 _ HQB.out (Tryz.sizePn _ _ _) rfl (one3 _ _ _ _ _) ?_
      | refine wpList_store_row rfl _ _ _ rfl R #[.int .i64 0, .int .u32 0, .slice none 0 0] rfl rfl 26 _ HR9.out (Tryz.sizePn _ _ _) rfl (one3 _ _ _ _ _) ?_)
    refine bodyPost_ret (v := .tuple #[planA 0 0 (.slice none 0 0), .int .i64 E]) (results_row_tmp rfl _ _ R _ _ _ _ rfl (setRow_heap _ _ _ _ _ _ HR9.out) Tryz.underlying26 rfl (Tryz.sizePn _ _ _) _ rfl) rfl ?_
    exact ⟨E, HWE.out, HEND.out, .inr ⟨HNE.out, rfl⟩⟩
end Go.Proofs.YtpfpojehcjmfnaaGreat

/-
  The page's examples, reckoned.
  Conditions: none.
-/
set_option linter.unusedVariables false
set_option linter.unusedSimpArgs false
namespace Go.Proofs.YtpfpojehcjmfnaaGreat
open Go.RowKit

theorem lit_spans (W : World) (ps : List Sp) (t : Nat) (hl : ps.length ≤ 100000) : SpansAt (W.alloc (.cells (spansCells ps).toArray t)) (.slice (some ⟨W.heap.size, 0, none⟩) ps.length ps.length) ps := by
  refine spans_of_own (base := 0) (e := t) ?_ (by omega)
  have := World.ownsRow_lit (base := 0) (e := t) (size := 2) W (spansCells ps).toArray ps.length (Nat.zero_le _) (by unfold maxLen; omega) (by simp [spansCells_length])
  simpa using this
def exA : List Sp := [(1, 3), (2, 3), (3, 2)]
def exK : List Pl := [⟨1, 3, 0, []⟩, ⟨2, 3, 1, []⟩]
def exN : List Pl := [⟨1, 3, 0, []⟩, ⟨2, 3, 1, []⟩, ⟨3, 2, 0, [⟨0, 1⟩, ⟨1, 2⟩]⟩]
theorem ex_ok : FullOk 4 3 exA := ⟨right_nil (by decide) (by decide) (by decide) (by decide) (by decide +kernel), by decide +kernel, by decide +kernel⟩
theorem ex_fit : fitT 4 3 [] (sortT exA) = (exK, [(3, 2)]) := by decide +kernel
theorem ex_chain : (chT 4 3 exK [(3, 2)]).1 = exN := by
  show (chS 4 3 (exK, 0) (3, 2)).1 = exN
  rw [chS_split (by decide +kernel)]
  show addU exK (splP 4 3 exK 0 (3, 2)) = exN
  unfold splP
  rw [pcsA_eq]
  decide +kernel
theorem ex_full : fullT 4 3 exA = exN := by
  unfold fullT
  rw [ex_fit]
  exact ex_chain
theorem exA_ints : IntsS exA := by
  intro s hs
  simp only [exA, List.mem_cons, List.not_mem_nil, or_false] at hs
  rcases hs with rfl | rfl | rfl <;> exact ⟨by decide, by decide⟩
end Go.Proofs.YtpfpojehcjmfnaaGreat
