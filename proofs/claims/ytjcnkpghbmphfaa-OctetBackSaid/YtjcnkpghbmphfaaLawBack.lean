/-
  OctetBack walked.
  Conditions: the argument reads as words.
-/
import Derived.Test.YtjcnkpghbmphfaaAwake
set_option linter.unusedVariables false
namespace Go.Proofs.Ytjcnkpghbmphfaa
open Go.RowKit

theorem num_good (y : Nat) (hy : y < 18446744073709551616) (r : List Nat) : numT (enc y ++ r) 0 18446744073709551615 = (y, r, 0) := by
  unfold numT
  rw [if_neg (by simp), lead_read hy]
  have := enc_pos y
  rw [if_neg (by show ¬ (enc y).length = 0; omega), if_neg (by show ¬ 18446744073709551615 < y; omega)]
  simp
def BackRel (l : List Nat) (w : World) (g : Nat) (m : Nat) (s4 : Value) (wr : World) : Prop :=
  ∃ k : Nat, k ≤ l.length ∧ m = l.length - k ∧ s4 = .int .i64 k ∧ Below w.heap.size w wr ∧ ReaderAt wr g (encs (l.drop k)) 0

set_option maxRecDepth 100000 in
set_option maxHeartbeats 8000000 in
theorem back_law (l : List Nat) (u : Value) (w : World) (hu : WordsAt w u l) :
    Calls Try.prog 4 #[u] w (RetB (.bool true) w) := by
  have HAW := Lib.hid (fun W => awake_any W)
  have HU := Lib.hid hu
  have HPUT := Lib.hid (fun h => put_any (.slice none 0 0) u [] l w (BytesAt.nil _) HU.out (by simp) h)
  obtain ⟨A, c, rfl, _, _, _, h4, h5⟩ := hu
  have HAT := Lib.hid h5
  have HS := Lib.hid h4
  clear h4 h5
  generalize hn : l.length = n at *
  have HN := Lib.hid hn
  clear hn
  by_cases hg : 200 < n
  · have y1 : 200 < (n : Int) := by omega
    clear hg
    go_enter Try.func4, Try.ntmps4
    go_wp2_with (go_at_call 7; refine (HAW.out _).mono ?_; rintro e w' ⟨rfl, hb⟩)
    go_ret
    exact ⟨rfl, hb⟩
  · have y1 : ¬ 200 < (n : Int) := by omega
    have HP := Lib.hid (HPUT.out (by omega))
    have HLEN := Lib.hid (show (encs l).length ≤ 100000 by have := encs_length l HS.out; have := HN.out; omega)
    clear hg HPUT
    go_enter Try.func4, Try.ntmps4
    go_wp2_with fail
    refine HP.out.mono ?_
    rintro e w1 ⟨v1, rfl, hown1, hb1⟩
    have HV1 := Lib.hid (open_any v1 (encs l) w1 HLEN.out hown1.bytes)
    have HB1 := Lib.hid hb1
    clear hown1 hb1
    go_wp2_with fail
    refine HV1.out.mono ?_
    rintro e w2 ⟨g, rfl, hg, hb2, hr2⟩
    have HG := Lib.hid (show w.heap.size ≤ g by have := HB1.out.size; omega)
    have HB2 := Lib.hid (HB1.out.trans (hb2.mono HB1.out.size))
    have HR2 := Lib.hid hr2
    clear hg hb2 hr2 HV1
    go_wp2_with fail
    go_loopg [4] n (fun m s4 wr => BackRel l w g m s4 wr)
    case atStart => exact ⟨0, Nat.zero_le _, by rw [HN.out]; rfl, rfl, HB2.out, HR2.out⟩
    case round =>
      obtain ⟨k, hk, hm, rfl, hbw, hr⟩ := hrel
      have HM := Lib.hid hm
      have HB := Lib.hid hbw
      have HR := Lib.hid hr
      have HK := Lib.hid hk
      clear hm hbw hr hk
      by_cases hlt : k < n
      · obtain ⟨b, off, hA, hbl, hcell⟩ := HAT.out (by omega)
        subst hA
        obtain ⟨y, hy⟩ := ex_at (xs := l) (k := k) (by rw [HN.out]; exact hlt)
        have hck := (HB.out.cell (p := ⟨b, off + k, none⟩) hbl).trans (hcell k y hy)
        have hys : y < 18446744073709551616 := HS.out y (List.mem_of_getElem? hy)
        have hre := HR.out
        rw [encs_drop hy] at hre
        have HRE := Lib.hid (show ReaderAt wr.drew g (enc y ++ encs (l.drop (k + 1))) 0 from hre.keep (below_drewN (Below.refl _ _) 1))
        have HNUM : Hid (Calls Try.prog 13 #[.pointer (some ⟨g, 0, none⟩), .int .u64 18446744073709551615] wr.drew (Moved g (.int .u64 y) (encs (l.drop (k + 1))) 0 wr.drew)) := Lib.hid (by
          have h := read_any g _ 0 18446744073709551615 wr.drew (by decide) HRE.out
          rw [num_good y hys] at h
          exact h)
        have HBG := Lib.hid (show b ≠ g by have := HG.out; omega)
        have HBL := Lib.hid (show b < wr.drew.heap.size by have := HB.out.size; simp; omega)
        have hltz : (k : Int) < (n : Int) := by omega
        have hk0 : (0 : Int) ≤ (k : Int) := by omega
        have HCK := Lib.hid hck
        clear hcell hy hre hbl hys
        go_wp2_with fail
        refine wp_region_N (S1 := fun W => W.cell? ⟨b, off + k, none⟩ = some (.int .u64 y)) (S2 := fun _ => True) (N := fun _ => false) (by kernel_rfl) ?_
        change wpAnyN _ _ _ _ _ _ _ 7 (Array.replicate 7 false) _ _
        have HDC := Lib.hid (show wr.drew.cell? ⟨b, off + k, none⟩ = some (.int .u64 y) from HCK.out)
        refine wpAnyN_take false (i := 0) (v := .pointer (some ⟨g, 0, none⟩)) rfl (by kernel_rfl) (by kernel_rfl) (by kernel_rfl) (fun _ _ _ h => h) (.inl ⟨by kernel_rfl, fun W hS => ?_⟩) ⟨HDC.out, fun h => by cases h⟩ ?_
        · simp [execOp, Act.eval, go_sem]
        refine wpAnyN_take false (i := 2) (v := .slice (some ⟨b, off, none⟩) n c) rfl (by kernel_rfl) (by kernel_rfl) (by kernel_rfl) (fun _ _ _ h => h) (.inl ⟨by kernel_rfl, fun W hS => ?_⟩) ⟨HDC.out, fun h => by cases h⟩ ?_
        · simp [execOp, Act.eval, Act.put, go_sem]
        refine wpAnyN_take false (i := 3) (v := .int .i64 k) rfl (by kernel_rfl) (by kernel_rfl) (by kernel_rfl) (fun _ _ _ h => h) (.inl ⟨by kernel_rfl, fun W hS => ?_⟩) ⟨HDC.out, fun h => by cases h⟩ ?_
        · simp [execOp, Act.eval, Act.put, go_sem]
        refine wpAnyN_take false (i := 4) (v := .pointer (some ⟨b, off + k, none⟩)) rfl (by kernel_rfl) (by kernel_rfl) (by kernel_rfl) (fun _ _ _ h => h) (.inl ⟨by kernel_rfl, fun W hS => ?_⟩) ⟨HDC.out, fun h => by cases h⟩ ?_
        · simp [execOp, Act.eval, Act.put, go_sem, hltz, hk0]
        refine wpAnyN_take false (i := 5) (v := .int .u64 y) rfl (by kernel_rfl) (by kernel_rfl) (by kernel_rfl) (fun _ _ _ h => h) (.inl ⟨by kernel_rfl, fun W hS => ?_⟩) ⟨HDC.out, fun h => by cases h⟩ ?_
        · simp [execOp, Act.eval, Act.put, go_sem, hS.1]
        refine wpAnyN_step (i := 1) (by kernel_rfl) rfl (by kernel_rfl) ?_
        intro K' hK
        try simp only [Act.put]
        go_simp
        refine HNUM.out.mono ?_
        rintro e w5 ⟨rfl, ha5, hr5⟩
        have HA5 := Lib.hid ha5
        have HR5 := Lib.hid hr5
        have HC5 := Lib.hid (show w5.cell? ⟨b, off + k, none⟩ = some (.int .u64 y) by have e := ha5.block b HBL.out HBG.out; rw [← HDC.out]; simp [World.cell?, e])
        clear ha5 hr5
        refine hK.out _ _ HC5.out (fun h => absurd h (by decide)) ?_
        refine wpAnyN_take false (i := 6) (v := .bool false) rfl (by kernel_rfl) (by kernel_rfl) (by kernel_rfl) (fun _ _ _ h => h) (.inl ⟨by kernel_rfl, fun W hS => ?_⟩) ⟨HC5.out, fun h => by cases h⟩ ?_
        · simp [execOp, Act.eval, go_sem]
        refine wpAnyN_done (by kernel_rfl) ?_
        try simp only [Act.put]
        try go_simp
        have HB5 := Lib.hid (Apart.over (below_drewN HB.out 1) HA5.out (by have := HB.out.size; simpa using this) HG.out)
        go_wp2_with fail
        go_roundg (n - (k + 1))
        case measure => have := HM.out; have := HN.out; omega
        case rel => exact ⟨k + 1, by have := HN.out; omega, by rw [HN.out], by go_num, HB5.out, HR5.out⟩
      · have hend : k = l.length := by have := HK.out; have := HN.out; omega
        have hre := HR.out
        rw [hend, List.drop_length, encs_nil] at hre
        have HEN : Hid (Calls Try.prog 14 #[.pointer (some ⟨g, 0, none⟩)] wr (Ret (.int .i64 0) wr)) := Lib.hid (end_any g [] 0 wr hre)
        have hltz : ¬ (k : Int) < (n : Int) := by omega
        clear hend hre
        go_wp2_with (first | (go_at_call 14; refine HEN.out.mono ?_; rintro e w' ⟨rfl, rfl⟩) | (go_at_call 7; refine (HAW.out _).mono ?_; rintro e w' ⟨rfl, hb⟩))
        go_ret
        exact ⟨rfl, HB.out.trans (hb.mono HB.out.size)⟩

end Go.Proofs.Ytjcnkpghbmphfaa
