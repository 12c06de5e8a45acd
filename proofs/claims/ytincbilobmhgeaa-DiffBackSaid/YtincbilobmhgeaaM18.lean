/-
  The document's Find: the place's pieces lie where the plan's do.
  Conditions: the slice reads as places.
-/
import Derived.Test.YtincbilobmhgeaaM14

/-
  The document's Find: the place's pieces lie where the plan's do.
  Conditions: the slice reads as places.
-/
set_option linter.unusedVariables false
namespace Go.Proofs.Ytincbilobmhgeaa
open Go.RowKit

set_option maxRecDepth 100000 in
set_option maxHeartbeats 4000000 in
theorem refFindG_any (G : Nat → Prop) (f : Int) (m : Nat) (v : Value) (l : List Pl) (u : Int) (w : World) (h : PlsIn G w v l) (hl : l.length ≤ 1000) :
    Calls Try.prog 18 #[planA f m v, .int .i64 u] w (RetFind G (findU l u) w) := by
  have HL := Lib.hid h
  obtain ⟨A, cA, rfl, hlc, hcm⟩ := h.form
  obtain ⟨n, hn⟩ : ∃ n, l.length = n := ⟨_, rfl⟩
  rw [hn] at HL hlc hl ⊢
  have HN := Lib.hid hn
  obtain ⟨w1, P, hw1, hP, hPl, hb1, hbox⟩ := box_any w #[.int .i64 f, .int .u32 m, .slice A n cA] 25
  obtain ⟨w3, R, hw3, hR, hRl, hb3, hrb⟩ := box_any w1 #[.int .i64 0, .int .i64 0, .int .i64 0, .slice none 0 0] 37
  have HB3 := Lib.hid (hb1.trans (hb3.mono hb1.size))
  have HPB := Lib.hid (keep_block hbox hb3)
  have HRB := Lib.hid hrb
  have HLT := Lib.hid (show w.heap.size ≤ P ∧ P < R ∧ R < w3.heap.size by have := hb1.size; omega)
  obtain ⟨p0, p1, p2⟩ := three_heads HPB.out
  clear h hn hb1 hb3 hbox hrb
  unfold planA
  go_enter Try.func18, Try.ntmps18
  go_wp2_with fail
  clear hw1 hP hw3 hR
  go_loopg [6] n (fun gg s6 wr => ∃ k : Nat, k ≤ n ∧ gg = n - k ∧ s6 = .int .i64 k ∧ Hid (findU (l.take k) u = none) ∧ w3 = wr)
  case atStart => exact ⟨0, Nat.zero_le _, by omega, rfl, rfl, rfl⟩
  case round =>
    obtain ⟨k, hk, hg, rfl, HF, rfl⟩ := hrel
    have HG := Lib.hid hg
    clear hg
    by_cases hlt : k < n
    · have hltz : (k : Int) < (n : Int) := by omega
      have hk0 : (0 : Int) ≤ (k : Int) := by omega
      obtain ⟨x, hx⟩ := exP_at (xs := l) (k := k) (by rw [HN.out]; exact hlt)
      obtain ⟨b, off, B, d, hA, hbl, _, hpl, hps⟩ := HL.out.at_ hx
      obtain ⟨c0, c1, c2, c3⟩ := hpl.keep (HB3.out.block b hbl)
      subst hA
      simp only at c0 c1 c2 c3
      have HX := Lib.hid hx
      have HPS := Lib.hid ((hps.mono (G := fun b => G b ∧ b < w.heap.size) fun b hb hg => ⟨hg, hb⟩).keep HB3.out)
      clear hx hps hpl
      by_cases hu : x.u = u
      · have hu1 : (x.u == u) = true := by simpa using hu
        have HE := Lib.hid (findU_hit HF HX.out hu)
        clear hu
        go_wp2_with (refine wpList_store_row rfl _ _ _ rfl R #[.int .i64 x.u, .int .i64 x.s, .int .i64 x.c, .slice B x.ps.length d] rfl rfl 37 _ HRB.out (Try.sizePl _ _ _ _) rfl (one4 _ _ _ _ _ _) ?_)
        refine bodyPost_ret (v := .tuple #[.agg #[.int .i64 x.u, .int .i64 x.s, .int .i64 x.c, .slice B x.ps.length d], .bool true]) (results_row_tmp rfl _ _ R _ _ _ _ rfl (setRow_heap _ _ _ _ _ _ HRB.out) Try.underlying37 rfl (Try.sizePl _ _ _ _) _ rfl) rfl ?_
        rw [HE.out]
        refine ⟨_, rfl, ?_, below_row16 HB3.out (by have := HLT.out; omega) _⟩
        exact (HPS.out.setRow (.inl (by have := HLT.out; rintro ⟨_, h9⟩; omega))).mono fun b _ h => h.1
      · have hu1 : (x.u == u) = false := by simpa using hu
        have HE := Lib.hid (findU_miss HF HX.out hu)
        clear hu
        go_wp2_with fail
        go_roundg (n - (k + 1))
        case measure => have := HG.out; omega
        case rel => exact ⟨k + 1, by omega, rfl, by go_num, HE.out, rfl⟩
    · have hltz : ¬ (k : Int) < (n : Int) := by omega
      have HE : Hid (findU l u = none) := by
        have h : findU (l.take k) u = none := HF
        rwa [List.take_of_length_le (by rw [HN.out]; omega)] at h
      go_wp2_with (refine wpList_store_row rfl _ _ _ rfl R #[.int .i64 0, .int .i64 0, .int .i64 0, .slice none 0 0] rfl rfl 37 _ HRB.out (Try.sizePl _ _ _ _) rfl (one4 _ _ _ _ _ _) ?_)
      refine bodyPost_ret (v := .tuple #[.agg #[.int .i64 0, .int .i64 0, .int .i64 0, .slice none 0 0], .bool false]) (results_row_tmp rfl _ _ R _ _ _ _ rfl (setRow_heap _ _ _ _ _ _ HRB.out) Try.underlying37 rfl (Try.sizePl _ _ _ _) _ rfl) rfl ?_
      rw [HE.out]
      exact ⟨_, rfl, PcsIn.nil _ _, below_row16 HB3.out (by have := HLT.out; omega) _⟩
end Go.Proofs.Ytincbilobmhgeaa
