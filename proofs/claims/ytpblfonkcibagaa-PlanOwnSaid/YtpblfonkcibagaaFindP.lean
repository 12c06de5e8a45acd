/-
  Find of program and document.
  Conditions: the slice reads as places.
-/
import Derived.Test.YtpblfonkcibagaaFind
set_option linter.unusedVariables false
namespace Go.Proofs.Ytpblfonkcibagaa
open Go.RowKit

/-- What Find answers: the place, or a zero one; its pieces in blocks of F. -/
def RetFind (F : Nat → Prop) (o : Option Pl) (w : World) (e : Ending) (w' : World) : Prop :=
  ∃ v, e = .returned (.tuple #[plA v (o.getD zeroPl), .bool o.isSome]) ∧ PcsIn F w' v (o.getD zeroPl).ps ∧ Below w.heap.size w w'
theorem PcsIn.setRow {F : Nat → Prop} {W : World} {v : Value} {ps : List Pc} (h : PcsIn F W v ps) {N : Nat} {cs : Array Value} (hn : ¬ F N ∨ W.heap.size ≤ N) : PcsIn F (W.setRow N cs) v ps :=
  h.keepF (by simp) fun b hb hF => setRow_other _ _ _ _ (by
    intro e
    subst e
    rcases hn with hn | hn
    · exact hn hF
    · omega)

set_option maxRecDepth 100000 in
set_option maxHeartbeats 4000000 in
theorem find_any (f : Int) (m : Nat) (v : Value) (l : List Pl) (u : Int) (w : World) (h : PlsAt w v l) (hl : l.length ≤ 1000) (hp : ∀ x ∈ l, x.ps.length ≤ 1000) :
    Calls Try.prog 13 #[planA f m v, .int .i64 u] w (RetFind (fun b => w.heap.size ≤ b) (findU l u) w) := by
  have HL := Lib.hid h
  have HPL := Lib.hid hp
  obtain ⟨A, cA, rfl, hlc, hcm⟩ := h.form
  obtain ⟨n, hn⟩ : ∃ n, l.length = n := ⟨_, rfl⟩
  rw [hn] at HL hlc hl ⊢
  have HN := Lib.hid hn
  obtain ⟨w1, P, hw1, hP, hPl, hb1, hbox⟩ := box_any w #[.int .i64 f, .int .u32 m, .slice A n cA] 25
  obtain ⟨w2, U, hw2, hU, hUl, hb2, hub⟩ := box_any w1 #[.int .i64 u] 3
  obtain ⟨w3, R, hw3, hR, hRl, hb3, hrb⟩ := box_any w2 #[.int .i64 0, .int .i64 0, .int .i64 0, .slice none 0 0] 33
  have HB2 := Lib.hid (hb1.trans (hb2.mono hb1.size))
  have HB3 := Lib.hid (HB2.out.trans (hb3.mono HB2.out.size))
  have HPB := Lib.hid (keep_block (keep_block hbox hb2) hb3)
  have HRB := Lib.hid hrb
  have hU3 : U < w3.heap.size := Nat.lt_of_lt_of_le hUl hb3.size
  have hu0 : w3.cell? ⟨U, 0, none⟩ = some (.int .i64 u) := by
    have e := keep_block hub hb3
    simp [World.cell?, e]
  have HI := Lib.hid (indexPl_any (.slice A n cA) l u U w3 (HL.out.keep HB3.out) hU3 hu0)
  have HLT := Lib.hid (show w.heap.size ≤ P ∧ P < U ∧ U < R ∧ R < w3.heap.size by have := hb1.size; have := hb2.size; omega)
  obtain ⟨p0, p1, p2⟩ := three_heads HPB.out
  clear h hp hn hb1 hb2 hb3 hbox hub hrb
  unfold planA
  go_enter Try.func13, Try.ntmps13
  go_wp2_with fail
  refine HI.out.mono ?_
  rintro e w4 ⟨r, rfl, hr, hb4⟩
  have HB4 := Lib.hid (HB3.out.trans (hb4.mono HB3.out.size))
  have HP4 := Lib.hid (keep_block HPB.out hb4)
  have HR4 := Lib.hid (keep_block HRB.out hb4)
  clear hb4 p0 p1 p2 hw1 hP hw2 hU hw3 hu0
  rcases hr with ⟨rfl, hnone⟩ | ⟨k, x, rfl, hx, hfound⟩
  · have HE := Lib.hid hnone
    clear hnone
    go_wp2_with (refine wpList_store_row rfl _ _ _ rfl R #[.int .i64 0, .int .i64 0, .int .i64 0, .slice none 0 0] rfl rfl 33 _ HR4.out (Try.sizePl _ _ _ _) rfl (one4 _ _ _ _ _ _) ?_)
    refine bodyPost_ret (v := .tuple #[.agg #[.int .i64 0, .int .i64 0, .int .i64 0, .slice none 0 0], .bool false]) (results_row_tmp rfl _ _ R _ _ _ _ rfl (setRow_heap _ _ _ _ _ _ HR4.out) Try.underlying33 rfl (Try.sizePl _ _ _ _) _ rfl) rfl ?_
    rw [HE.out]
    exact ⟨_, rfl, PcsIn.nil _ _, below_row16 HB4.out (by have := HLT.out; omega) _⟩
  · have HE := Lib.hid hfound
    have HX := Lib.hid hx
    have hkn : k < n := by have := (List.getElem?_eq_some_iff.1 hx).1; have := HN.out; omega
    have hknz : (k : Int) < (n : Int) := by omega
    have hk0 : (0 : Int) ≤ (k : Int) := by omega
    have hkd : decide ((k : Int) < 0) = false := decide_eq_false (by omega)
    obtain ⟨b, off, B, d, hA, hbl, _, ⟨c0, c1, c2, c3⟩, hps⟩ := (HL.out.keep HB4.out).at_ hx
    subst hA
    simp only at c0 c1 c2 c3
    have HC := Lib.hid (clonePl_any (.slice B x.ps.length d) x w4 hps (HPL.out x (List.mem_of_getElem? hx)))
    unfold plA at HC
    obtain ⟨r0, r1, r2⟩ := three_heads HP4.out
    clear hx hfound hps
    go_wp2_with fail
    refine HC.out.mono ?_
    rintro e w5 ⟨v', rfl, hps5, hb5⟩
    have HPS := Lib.hid hps5
    have HB5 := Lib.hid (HB4.out.trans (hb5.mono HB4.out.size))
    have HR5 := Lib.hid (keep_block HR4.out hb5)
    have HS4 := Lib.hid (show R < w4.heap.size from heap_lt HR4.out)
    obtain ⟨A', d', hv'⟩ := hps5.form
    subst hv'
    clear hb5 hps5 r0 r1 r2
    unfold plA
    go_wp2_with (refine wpList_store_row rfl _ _ _ rfl R #[.int .i64 x.u, .int .i64 x.s, .int .i64 x.c, .slice A' x.ps.length d'] rfl rfl 33 _ HR5.out (Try.sizePl _ _ _ _) rfl (one4 _ _ _ _ _ _) ?_)
    refine bodyPost_ret (v := .tuple #[.agg #[.int .i64 x.u, .int .i64 x.s, .int .i64 x.c, .slice A' x.ps.length d'], .bool true]) (results_row_tmp rfl _ _ R _ _ _ _ rfl (setRow_heap _ _ _ _ _ _ HR5.out) Try.underlying33 rfl (Try.sizePl _ _ _ _) _ rfl) rfl ?_
    rw [HE.out]
    refine ⟨_, rfl, ?_, below_row16 HB5.out (by have := HLT.out; omega) _⟩
    exact (HPS.out.setRow (.inl (by have := HS4.out; omega))).mono fun b _ hF => Nat.le_trans HB4.out.size hF

set_option maxRecDepth 100000 in
set_option maxHeartbeats 4000000 in
theorem refFind_any (f : Int) (m : Nat) (v : Value) (l : List Pl) (u : Int) (w : World) (h : PlsAt w v l) (hl : l.length ≤ 1000) :
    Calls Try.prog 14 #[planA f m v, .int .i64 u] w (RetFind Any (findU l u) w) := by
  have HL := Lib.hid h
  obtain ⟨A, cA, rfl, hlc, hcm⟩ := h.form
  obtain ⟨n, hn⟩ : ∃ n, l.length = n := ⟨_, rfl⟩
  rw [hn] at HL hlc hl ⊢
  have HN := Lib.hid hn
  obtain ⟨w1, P, hw1, hP, hPl, hb1, hbox⟩ := box_any w #[.int .i64 f, .int .u32 m, .slice A n cA] 25
  obtain ⟨w3, R, hw3, hR, hRl, hb3, hrb⟩ := box_any w1 #[.int .i64 0, .int .i64 0, .int .i64 0, .slice none 0 0] 33
  have HB3 := Lib.hid (hb1.trans (hb3.mono hb1.size))
  have HPB := Lib.hid (keep_block hbox hb3)
  have HRB := Lib.hid hrb
  have HLT := Lib.hid (show w.heap.size ≤ P ∧ P < R ∧ R < w3.heap.size by have := hb1.size; omega)
  obtain ⟨p0, p1, p2⟩ := three_heads HPB.out
  clear h hn hb1 hb3 hbox hrb
  unfold planA
  go_enter Try.func14, Try.ntmps14
  go_wp2_with fail
  clear hw1 hP hw3 hR
  go_loopg [6] n (fun gg s6 wr => ∃ k : Nat, k ≤ n ∧ gg = n - k ∧ s6 = .int .i64 k ∧ Hid (findU (l.take k) u = none) ∧ w3 = wr)
  case atStart => exact ⟨0, Nat.zero_le _, by omega, rfl, rfl, rfl⟩
  case round =>
    obtain ⟨k, hk, hg, rfl, HF, rfl⟩ := hrel
    have HG := Lib.hid hg
    clear hg
    by_cases hlt : k < n
    · have hltz : (k : Int) < (n : Int) := by omega
      have hk0 : (0 : Int) ≤ (k : Int) := by omega
      obtain ⟨x, hx⟩ := exP_at (xs := l) (k := k) (by rw [HN.out]; exact hlt)
      obtain ⟨b, off, B, d, hA, hbl, _, hpl, hps⟩ := HL.out.at_ hx
      obtain ⟨c0, c1, c2, c3⟩ := hpl.keep (HB3.out.block b hbl)
      subst hA
      simp only at c0 c1 c2 c3
      have HX := Lib.hid hx
      have HPS := Lib.hid ((hps.mono (G := fun b => b < w.heap.size) fun b hb _ => hb).keep HB3.out)
      clear hx hps hpl
      by_cases hu : x.u = u
      · have hu1 : (x.u == u) = true := by simpa using hu
        have HE := Lib.hid (findU_hit HF HX.out hu)
        clear hu
        go_wp2_with (refine wpList_store_row rfl _ _ _ rfl R #[.int .i64 x.u, .int .i64 x.s, .int .i64 x.c, .slice B x.ps.length d] rfl rfl 33 _ HRB.out (Try.sizePl _ _ _ _) rfl (one4 _ _ _ _ _ _) ?_)
        refine bodyPost_ret (v := .tuple #[.agg #[.int .i64 x.u, .int .i64 x.s, .int .i64 x.c, .slice B x.ps.length d], .bool true]) (results_row_tmp rfl _ _ R _ _ _ _ rfl (setRow_heap _ _ _ _ _ _ HRB.out) Try.underlying33 rfl (Try.sizePl _ _ _ _) _ rfl) rfl ?_
        rw [HE.out]
        refine ⟨_, rfl, ?_, below_row16 HB3.out (by have := HLT.out; omega) _⟩
        exact (HPS.out.setRow (.inl (by have := HLT.out; omega))).any
      · have hu1 : (x.u == u) = false := by simpa using hu
        have HE := Lib.hid (findU_miss HF HX.out hu)
        clear hu
        go_wp2_with fail
        go_roundg (n - (k + 1))
        case measure => have := HG.out; omega
        case rel => exact ⟨k + 1, by omega, rfl, by go_num, HE.out, rfl⟩
    · have hltz : ¬ (k : Int) < (n : Int) := by omega
      have HE : Hid (findU l u = none) := by
        have h : findU (l.take k) u = none := HF
        rwa [List.take_of_length_le (by rw [HN.out]; omega)] at h
      go_wp2_with (refine wpList_store_row rfl _ _ _ rfl R #[.int .i64 0, .int .i64 0, .int .i64 0, .slice none 0 0] rfl rfl 33 _ HRB.out (Try.sizePl _ _ _ _) rfl (one4 _ _ _ _ _ _) ?_)
      refine bodyPost_ret (v := .tuple #[.agg #[.int .i64 0, .int .i64 0, .int .i64 0, .slice none 0 0], .bool false]) (results_row_tmp rfl _ _ R _ _ _ _ rfl (setRow_heap _ _ _ _ _ _ HRB.out) Try.underlying33 rfl (Try.sizePl _ _ _ _) _ rfl) rfl ?_
      rw [HE.out]
      exact ⟨_, rfl, PcsIn.nil _ _, below_row16 HB3.out (by have := HLT.out; omega) _⟩
end Go.Proofs.Ytpblfonkcibagaa
