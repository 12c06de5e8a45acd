/-
  The floor; where a member stands: seek.
  Conditions: the ring lies in memory; its numbers fit.
-/
import Derived.Test.YtanchjcifhbllaaFirst
set_option linter.unusedVariables false
namespace Go.Proofs.Ytanchjcifhbllaa
open Go.RowKit Go.Sort

theorem keep_block {w w' : World} {N : Nat} {o : Obj} (h : w.heap[N]? = some o) (hb : Below w.heap.size w w') : w'.heap[N]? = some o := (hb.block N (heap_lt h)).trans h
theorem two_heads {w : World} {N : Nat} {a b : Value} {T : TypeId} (h : w.heap[N]? = some (.cells #[a, b] T (0, 0))) :
    w.cell? ⟨N, 0, none⟩ = some a ∧ w.cell? ⟨N, 1, none⟩ = some b ∧ w.frozen? ⟨N, 0, none⟩ = false ∧ w.frozen? ⟨N, 1, none⟩ = false := by
  refine ⟨?_, ?_, ?_, ?_⟩ <;> simp [World.cell?, World.frozen?, h]
theorem two_set {w : World} {g : Nat} {a b : Value} {t : TypeId} (h : w.heap[g]? = some (.cells #[a, b] t (0, 0))) (c d : Value) :
    ((w.setCell ⟨g, 0, none⟩ c).setCell ⟨g, 1, none⟩ d).heap[g]? = some (.cells #[c, d] t (0, 0)) :=
  heap_setCell_mem _ _ _ _ _ _ _ (heap_setCell_mem _ _ _ _ _ _ _ h)
theorem alloc_block (w : World) (o : Obj) {N : Nat} (hN : w.heap.size = N) : (w.alloc o).heap[N]? = some o := by subst hN; exact heap_alloc_new w o
theorem below_two {B N : Nat} {a w : World} (h : Below B a w) (hN : B ≤ N) (c d : Value) : Below B a ((w.setCell ⟨N, 0, none⟩ c).setCell ⟨N, 1, none⟩ d) :=
  (h.setCell (p := ⟨N, 0, none⟩) hN c).setCell (p := ⟨N, 1, none⟩) hN d

set_option maxHeartbeats 1000000 in
theorem floor_any (W : World) (rb : Nat) (mv : Value) (s : Rg) (C : Nat) (h : RingAt W rb mv s) (hf : Fit C s) (hlim : 0 < s.lim) (hl : C ≤ 1099511627777) :
    Calls Try.prog 34 #[.pointer (some ⟨rb, 0, none⟩)] W (RetB (passA (floorN s).1 (floorN s).2) W) := by
  have HFIRST := Lib.hid (fun W h => first_any W rb mv s C h hf hlim hl)
  have HR := Lib.hid h
  have HF := Lib.hid hf
  have hb1 := (Below.refl W.heap.size W).alloc (Nat.le_refl _) (.cells #[.int .u64 0, .int .u64 0] 58)
  have HB1 := Lib.hid hb1
  have HR1 := Lib.hid (h.below hb1)
  have HN1 := Lib.hid (alloc_block W (.cells #[.int .u64 0, .int .u64 0] 58) rfl)
  clear hb1 hf hl hlim h
  unfold passA floorN
  cases hb : best s.l with
  | none =>
    rw [hb] at HFIRST
    clear hb
    go_enter Try.func34, Try.ntmps34
    go_wp2_with fail
    generalize hw0 : W.alloc (.cells #[.int .u64 0, .int .u64 0] 58) = w0 at *
    have hs0 := HB1.out.size
    obtain ⟨N, hN⟩ : ∃ N, W.heap.size = N := ⟨_, rfl⟩
    rw [hN] at HB1 HN1 hs0 ⊢
    have HS0 := Lib.hid hs0
    clear hs0
    clear hw0
    refine (HFIRST.out w0 HR1.out).mono ?_
    rintro e w1 ⟨rfl, hb⟩
    have HB := Lib.hid hb
    have HSZ := Lib.hid hN
    obtain ⟨_, c1, c2, c3, _⟩ := (HR1.out.below hb).heads
    have HN2 := Lib.hid (keep_block HN1.out hb)
    obtain ⟨d0, d1, d2, d3⟩ := two_heads HN2.out
    clear hb hN
    have hidx : idxI none = -1 := rfl
    rw [hidx]
    clear hidx
    go_wp2
    refine bodyPost_ret (v := .agg #[.int .u64 s.num, .int .u64 s.den]) (results_cell_row rfl _ _ N _ _ _ _ rfl (two_set HN2.out _ _) Try.underlying58 rfl (Try.sizePass _ _)) rfl ?_
    refine ⟨rfl, ?_⟩
    rw [HSZ.out]
    exact below_two (HB1.out.trans (HB.out.mono HS0.out)) (Nat.le_refl _) _ _
  | some x =>
    rw [hb] at HFIRST
    obtain ⟨k, m⟩ := x
    obtain ⟨hk, hon, hmin⟩ := best_some HF.out.pos hb
    clear hon hmin
    simp only at hk
    obtain ⟨f1, f2, f3, f4, f5⟩ := HF.out.mem m (List.mem_of_getElem? hk)
    have HP := Lib.hid (fun W => pass_any m f4 W)
    have hkl := (List.getElem?_eq_some_iff.1 hk).1
    obtain ⟨n, hn⟩ : ∃ n, s.l.length = n := ⟨_, rfl⟩
    rw [hn] at hkl
    have hkz : (k : Int) < (n : Int) := by omega
    have hk0 : (0 : Int) ≤ (k : Int) := by omega
    have HK := Lib.hid hk
    have HNN := Lib.hid hn
    have hidx : idxI (some (k, m)) = (k : Int) := rfl
    rw [hidx] at HFIRST
    clear hb hidx hk f1 f2 f3 f4 f5 hn
    go_enter Try.func34, Try.ntmps34
    go_wp2_with fail
    generalize hw0 : W.alloc (.cells #[.int .u64 0, .int .u64 0] 58) = w0 at *
    have hs0 := HB1.out.size
    obtain ⟨N, hN⟩ : ∃ N, W.heap.size = N := ⟨_, rfl⟩
    rw [hN] at HB1 HN1 hs0 ⊢
    have HS0 := Lib.hid hs0
    clear hs0
    clear hw0
    refine (HFIRST.out w0 HR1.out).mono ?_
    rintro e w1 ⟨rfl, hb⟩
    have HB := Lib.hid hb
    have HSZ := Lib.hid hN
    have HR2 := Lib.hid (HR1.out.below hb)
    obtain ⟨_, c1, c2, c3, _⟩ := (HR1.out.below hb).heads
    have HN2 := Lib.hid (keep_block HN1.out hb)
    obtain ⟨g, cap, rfl, hgl, hgne, hc1, hc2, hat, _⟩ := HR2.out.at_ HK.out
    rw [HNN.out] at c1 hc1
    obtain ⟨m0, m1, m2, m3⟩ := hat
    unfold mbA passA at HP
    clear hb hN hgl hgne hc1 hc2
    obtain ⟨m1', m2', m3', m4'⟩ := m
    simp only at m0 m1 m2 m3 HP
    go_wp2_with fail
    refine (HP.out _).mono ?_
    rintro e w2 ⟨rfl, hg⟩
    have HG := Lib.hid hg.below
    have HN3 := Lib.hid (keep_block HN2.out hg.below)
    obtain ⟨d0, d1, d2, d3⟩ := two_heads HN3.out
    clear hg c1 c2 c3 m0 m1 m2 m3
    go_wp2
    refine bodyPost_ret (v := .agg #[.int .u64 m3', .int .u64 m2']) (results_cell_row rfl _ _ N _ _ _ _ rfl (two_set HN3.out _ _) Try.underlying58 rfl (Try.sizePass _ _)) rfl ?_
    refine ⟨rfl, ?_⟩
    rw [HSZ.out]
    exact below_two (HB1.out.trans ((HB.out.trans (HG.out.mono HB.out.size)).mono HS0.out)) (Nat.le_refl _) _ _

/-! ### Where a member stands -/
theorem seek_nil (W : World) (id : Int) : Calls Try.prog 32 #[.pointer none, .int .i64 id] W (Ret (.tuple #[.int .i64 0, .int .i64 2]) W) := by
  have HM := Lib.hid (isMade_nil)
  go_enter Try.func32, Try.ntmps32
  go_wp2_with (go_at_call 31; refine (HM.out _).mono ?_; rintro e w' ⟨rfl, rfl⟩)
  go_ret2
  exact ⟨rfl, rfl⟩
theorem seek_bare (W : World) (rb : Nat) (id : Int) (h : Bare W rb) : Calls Try.prog 32 #[.pointer (some ⟨rb, 0, none⟩), .int .i64 id] W (Ret (.tuple #[.int .i64 0, .int .i64 2]) W) := by
  have HM := Lib.hid (isMade_bare W rb h)
  clear h
  go_enter Try.func32, Try.ntmps32
  go_wp2_with (go_at_call 31; refine HM.out.mono ?_; rintro e w' ⟨rfl, rfl⟩)
  go_ret2
  exact ⟨rfl, rfl⟩
def seekV (o : Option Nat) : Value := match o with | none => .tuple #[.int .i64 0, .int .i64 10] | some k => .tuple #[.int .i64 k, .int .i64 0]
theorem seek_any (W : World) (rb : Nat) (mv : Value) (s : Rg) (id : Int) (h : RingAt W rb mv s) (hlim : 0 < s.lim) (hl : s.l.length ≤ 1000) :
    Calls Try.prog 32 #[.pointer (some ⟨rb, 0, none⟩), .int .i64 id] W (RetB (seekV (findK s.l id)) W) := by
  have HM := Lib.hid (isMade_any W rb mv s h hlim)
  have HF := Lib.hid (find_any W rb mv s id h hl)
  clear h hl hlim
  unfold seekV
  cases hq : findK s.l id with
  | none =>
    rw [hq] at HF
    have e : idxO none = -1 := rfl
    rw [e] at HF
    clear hq e
    go_enter Try.func32, Try.ntmps32
    go_wp2_with fail
    refine HM.out.mono ?_
    rintro e w1 ⟨rfl, rfl⟩
    go_wp2_with fail
    refine HF.out.mono ?_
    rintro e w1 ⟨rfl, hb⟩
    have HB := Lib.hid hb
    clear hb
    go_wp2
    go_ret2
    exact ⟨rfl, HB.out⟩
  | some k =>
    rw [hq] at HF
    have e : idxO (some k) = (k : Int) := rfl
    rw [e] at HF
    clear hq e
    have hk0 : (0 : Int) ≤ (k : Int) := by omega
    go_enter Try.func32, Try.ntmps32
    go_wp2_with fail
    refine HM.out.mono ?_
    rintro e w1 ⟨rfl, rfl⟩
    go_wp2_with fail
    refine HF.out.mono ?_
    rintro e w1 ⟨rfl, hb⟩
    have HB := Lib.hid hb
    clear hb
    go_wp2
    go_ret2
    exact ⟨rfl, HB.out⟩
end Go.Proofs.Ytanchjcifhbllaa
