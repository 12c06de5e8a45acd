/-
  sink and settle of the program.
  Conditions: the heap lies in memory; only the one told may stand wrong.
-/
import Derived.Test.YtademjmnoncieaaRise
import Derived.Test.YtademjmnoncieaaBelow
set_option linter.unusedVariables false
namespace Go.Proofs.Ytademjmnoncieaa
open Go.RowKit

/-- Of a and the i first ones below it, f is before all others. -/
def Best (s : Hs) (a i f : Nat) : Prop := f < s.m ∧ (f = a ∨ (a < f ∧ (f - 1) / 2 = a ∧ s.lt (s.L f) (s.L a))) ∧ ∀ c, 2 * a + 1 ≤ c → c < 2 * a + 1 + i → c < s.m → ¬ s.lt (s.L c) (s.L f)
theorem Best.start {s : Hs} {a : Nat} (ha : a < s.m) : Best s a 0 a := ⟨ha, .inl rfl, fun c h1 h2 => by omega⟩
theorem Best.take {s : Hs} {a i f c : Nat} (k : Cons s) (h : Best s a i f) (ha : a < s.m) (hi : i < 2) (hc : 2 * a + 1 + i = c) (hm : c < s.m) (hl : s.lt (s.L c) (s.L f)) : Best s a (i + 1) c := by
  obtain ⟨h1, h2, h3⟩ := h
  refine ⟨hm, .inr ⟨by omega, by omega, ?_⟩, fun c' g1 g2 g3 => ?_⟩
  · rcases h2 with rfl | ⟨_, _, h2⟩
    · exact hl
    · exact s.o.tr _ _ _ (k.on _ hm) (k.on _ h1) (k.on _ ha) hl h2
  · by_cases e : c' = c
    · subst e; exact s.o.irr _
    · exact s.o.le (k.on _ hm) (k.on _ h1) (k.on _ g3) (s.o.asym (k.on _ hm) (k.on _ h1) hl) (h3 c' g1 (by omega) g3)
theorem Best.stay {s : Hs} {a i f c : Nat} (h : Best s a i f) (hc : 2 * a + 1 + i = c) (hl : c < s.m → ¬ s.lt (s.L c) (s.L f)) : Best s a (i + 1) f := by
  obtain ⟨h1, h2, h3⟩ := h
  refine ⟨h1, h2, fun c' g1 g2 g3 => ?_⟩
  by_cases e : c' = c
  · subst e; exact hl g3
  · exact h3 c' g1 (by omega) g3
theorem Best.done {s : Hs} {a : Nat} (h : Best s a 2 a) (hb : ButBelow s.lt s.L s.m a) : HeapOrd s.lt s.L s.m :=
  sink_done hb fun c c0 cm cp => h.2.2 c (by omega) (by omega) cm
theorem Best.go {s : Hs} {a f : Nat} (k : Cons s) (h : Best s a 2 f) (hne : f ≠ a) (ha : a < s.m) (hb : ButBelow s.lt s.L s.m a) : a < f ∧ f < s.m ∧ ButBelow s.lt (swapF s.L a f) s.m f := by
  obtain ⟨h1, h2, h3⟩ := h
  rcases h2 with h2 | ⟨g1, g2, g3⟩
  · exact absurd h2 hne
  · exact ⟨g1, h1, sink_step (P := s.P) s.o k.on hb ha h1 (by omega) g2 g3 fun c c0 cm cp => h3 c (by omega) (by omega) cm⟩

def SinkRel (W : World) (hb kb : Nat) (lv : Value) (s : Hs) (g : Nat) (s1 : Value) (wr : World) : Prop :=
  ∃ (a : Nat) (s' : Hs), s1 = .int .i64 a ∧ g = s.m - a ∧ a < s.m ∧ Like s s' ∧ Cons s' ∧ ButBelow s'.lt s'.L s'.m a ∧ HeapAt wr hb kb lv s' ∧ Apart (Foot hb kb lv) W wr
def InRel (W : World) (s : Hs) (a : Nat) (g : Nat) (s4 s10 : Value) (wr : World) : Prop :=
  ∃ f : Nat, s4 = .int .i64 f ∧ ((g = 2 ∧ s10 = .int .i64 0 ∧ Best s a 0 f) ∨ (g = 1 ∧ s10 = .int .i64 1 ∧ Best s a 1 f) ∨ (g = 0 ∧ s10 = .int .i64 2 ∧ Best s a 2 f)) ∧ Below W.heap.size W wr
/-- All stand right again. -/
def SettlePost (W : World) (hb kb : Nat) (lv : Value) (s : Hs) (e : Ending) (wr : World) : Prop :=
  ∃ (s' : Hs), e = .returned (.tuple #[]) ∧ Like s s' ∧ Okay s' ∧ HeapAt wr hb kb lv s' ∧ Apart (Foot hb kb lv) W wr

theorem idx_two (x y : Int) (w : World) : (Instr.index 91 (.agg #[.int .i64 x, .int .i64 y]) (.int .i64 0)).run Try.prog w = .ok (.int .i64 x) w ∧ (Instr.index 91 (.agg #[.int .i64 x, .int .i64 y]) (.int .i64 1)).run Try.prog w = .ok (.int .i64 y) w := by
  constructor <;> simp [Instr.index, run_underlying Try.underlying91, asIntOf, go_sem]

set_option maxRecDepth 100000 in
set_option maxHeartbeats 16000000 in
theorem sink_any (W : World) (hb kb : Nat) (lv : Value) (s : Hs) (a : Nat) (h : HeapAt W hb kb lv s) (hc : Cons s) (ha : a < s.m) (hh : ButBelow s.lt s.L s.m a) :
    Calls Try.prog 35 #[.pointer (some ⟨hb, 0, none⟩), .int .i64 a] W (SettlePost W hb kb lv s) := by
  obtain ⟨g, cap, rfl, _, _, _, _, _, _, _⟩ := h.row (by omega)
  have H := Lib.hid h
  have HC := Lib.hid hc
  have HH := Lib.hid hh
  have m1 := h.m1
  obtain ⟨m, hm⟩ : ∃ m, s.m = m := ⟨_, rfl⟩
  have HM := Lib.hid hm
  rw [hm] at ha m1 H ⊢
  clear h hc hh hm
  go_enter Try.func35, Try.ntmps35
  go_wp2_with fail
  go_loopg [1] (m - a) (fun g' s1 wr => SinkRel W hb kb (.slice (some ⟨g, 0, none⟩) m cap) s g' s1 wr)
  case atStart => exact ⟨a, s, rfl, by rw [HM.out], by rw [HM.out]; exact ha, Like.refl s, HC.out, HH.out, H.out, Apart.refl _ _⟩
  case round =>
    obtain ⟨x, s', rfl, hg, hx, hlike, hcons, hbut, hat, hap⟩ := hrel
    have HL := Lib.hid hlike
    have HCo := Lib.hid hcons
    have HB := Lib.hid hbut
    have HA := Lib.hid hat
    have HP := Lib.hid hap
    have hm' : s'.m = m := by rw [hlike.2.1, HM.out]
    have HM' := Lib.hid hm'
    rw [HM.out] at hx
    have HX := Lib.hid (show x < s'.m by omega)
    have HG := Lib.hid hg
    clear hlike hcons hbut hat hap hm' H HC HH ha hg
    have HBL := below_any wr x (by omega)
    obtain ⟨c1, hc1⟩ : ∃ c, 2 * x + 1 = c := ⟨_, rfl⟩
    obtain ⟨c2, hc2⟩ : ∃ c, 2 * x + 2 = c := ⟨_, rfl⟩
    rw [hc1, hc2] at HBL
    have HBL := Lib.hid HBL
    have HC1 := Lib.hid hc1
    have HC2 := Lib.hid hc2
    have c1b : c1 ≤ 200001 := by omega
    have c2b : c2 ≤ 200002 := by omega
    clear hc1 hc2
    go_wp2_with fail
    refine HBL.out.mono ?_
    rintro e w1 ⟨rfl, hb1⟩
    have HA1 := Lib.hid (HA.out.below hb1)
    have HP1 := Lib.hid (HP.out.trans (F' := Foot hb kb (.slice (some ⟨g, 0, none⟩) m cap)) (Apart.of_below hb1) (fun _ _ h => h))
    clear hb1
    go_wp2_with fail
    go_loopg [4, 10] 2 (fun g2 s4 s10 wr2 => InRel w1 s' x g2 s4 s10 wr2)
    case atStart => exact ⟨x, rfl, .inl ⟨rfl, rfl, Best.start HX.out⟩, Below.refl _ _⟩
    case round =>
      obtain ⟨f, rfl, hcase, hbw⟩ := hrel
      have HA2 := Lib.hid (HA1.out.below hbw)
      have HBW := Lib.hid hbw
      obtain ⟨_, hd1, _, _⟩ := HA2.out.heads
      clear hbw
      have hi0 := (idx_two (c1 : Int) (c2 : Int) wr).1
      have hi1 := (idx_two (c1 : Int) (c2 : Int) wr).2
      rcases hcase with ⟨rfl, rfl, hbest⟩ | ⟨rfl, rfl, hbest⟩ | ⟨rfl, rfl, hbest⟩
      all_goals
        have HBE := Lib.hid hbest
        clear hbest
      · by_cases hlt : c1 < m
        · have z1 : (c1 : Int) < (m : Int) := by omega
          have HLT := Lib.hid (show c1 < s'.m by rw [HM'.out]; exact hlt)
          have HPR := Lib.hid (precedes_any wr hb kb _ s' c1 f HA2.out HLT.out HBE.out.1 (HCo.out.lo _ HLT.out) (HCo.out.lo _ HBE.out.1) (HCo.out.on _ HLT.out) (HCo.out.on _ HBE.out.1))
          have HIF := Lib.hid (aheadB_iff s' (s'.L c1) (s'.L f))
          generalize aheadB (s'.num (s'.L c1)) (s'.den (s'.L c1)) (s'.L c1) (s'.num (s'.L f)) (s'.den (s'.L f)) (s'.L f) = r at *
          clear hlt
          cases r with
          | false =>
            go_wp2_with (go_at_call 46; refine HPR.out.mono ?_; rintro e w3 ⟨rfl, hb3⟩; have HB3 := Lib.hid hb3; clear hb3)
            go_roundg 1
            case measure => omega
            case rel => exact ⟨f, rfl, .inr (.inl ⟨rfl, rfl, Best.stay HBE.out (show 2 * x + 1 + 0 = c1 by have := HC1.out; omega) (fun _ h => by have := HIF.out.2 h; cases this)⟩), HBW.out.trans (HB3.out.mono HBW.out.size)⟩
          | true =>
            go_wp2_with (go_at_call 46; refine HPR.out.mono ?_; rintro e w3 ⟨rfl, hb3⟩; have HB3 := Lib.hid hb3; clear hb3)
            go_roundg 1
            case measure => omega
            case rel => exact ⟨c1, rfl, .inr (.inl ⟨rfl, rfl, Best.take HCo.out HBE.out HX.out (by omega) (show 2 * x + 1 + 0 = c1 by have := HC1.out; omega) HLT.out (HIF.out.1 (by first | rfl | trivial))⟩), HBW.out.trans (HB3.out.mono HBW.out.size)⟩
        · have z1 : ¬ (c1 : Int) < (m : Int) := by omega
          go_wp2_with fail
          go_roundg 1
          case measure => omega
          case rel => exact ⟨f, rfl, .inr (.inl ⟨rfl, rfl, Best.stay HBE.out (show 2 * x + 1 + 0 = c1 by have := HC1.out; omega) (fun h => by have := HM'.out; omega)⟩), HBW.out⟩
      · by_cases hlt : c2 < m
        · have z1 : (c2 : Int) < (m : Int) := by omega
          have HLT := Lib.hid (show c2 < s'.m by rw [HM'.out]; exact hlt)
          have HPR := Lib.hid (precedes_any wr hb kb _ s' c2 f HA2.out HLT.out HBE.out.1 (HCo.out.lo _ HLT.out) (HCo.out.lo _ HBE.out.1) (HCo.out.on _ HLT.out) (HCo.out.on _ HBE.out.1))
          have HIF := Lib.hid (aheadB_iff s' (s'.L c2) (s'.L f))
          generalize aheadB (s'.num (s'.L c2)) (s'.den (s'.L c2)) (s'.L c2) (s'.num (s'.L f)) (s'.den (s'.L f)) (s'.L f) = r at *
          clear hlt
          cases r with
          | false =>
            go_wp2_with (go_at_call 46; refine HPR.out.mono ?_; rintro e w3 ⟨rfl, hb3⟩; have HB3 := Lib.hid hb3; clear hb3)
            go_roundg 0
            case measure => omega
            case rel => exact ⟨f, rfl, .inr (.inr ⟨rfl, rfl, Best.stay HBE.out (show 2 * x + 1 + 1 = c2 by have := HC2.out; omega) (fun _ h => by have := HIF.out.2 h; cases this)⟩), HBW.out.trans (HB3.out.mono HBW.out.size)⟩
          | true =>
            go_wp2_with (go_at_call 46; refine HPR.out.mono ?_; rintro e w3 ⟨rfl, hb3⟩; have HB3 := Lib.hid hb3; clear hb3)
            go_roundg 0
            case measure => omega
            case rel => exact ⟨c2, rfl, .inr (.inr ⟨rfl, rfl, Best.take HCo.out HBE.out HX.out (by omega) (show 2 * x + 1 + 1 = c2 by have := HC2.out; omega) HLT.out (HIF.out.1 (by first | rfl | trivial))⟩), HBW.out.trans (HB3.out.mono HBW.out.size)⟩
        · have z1 : ¬ (c2 : Int) < (m : Int) := by omega
          go_wp2_with fail
          go_roundg 0
          case measure => omega
          case rel => exact ⟨f, rfl, .inr (.inr ⟨rfl, rfl, Best.stay HBE.out (show 2 * x + 1 + 1 = c2 by have := HC2.out; omega) (fun h => by have := HM'.out; omega)⟩), HBW.out⟩
      · have HP2 := Lib.hid (HP1.out.trans (F' := Foot hb kb (.slice (some ⟨g, 0, none⟩) m cap)) (Apart.of_below HBW.out) (fun _ _ h => h))
        by_cases he : f = x
        · subst he
          go_wp2_with fail
          go_returns
          exact ⟨s', rfl, HL.out, ⟨HCo.out, HBE.out.done HB.out⟩, HA2.out, HP2.out⟩
        · have HE := Lib.hid he
          have HSW := Lib.hid (swap_any wr hb kb _ s' x f HA2.out HX.out HBE.out.1 (HCo.out.lo _ HX.out) (HCo.out.lo _ HBE.out.1))
          have z1 : ((f : Int) == (x : Int)) = false := by simp; omega
          have z2 : ¬ (f : Int) = (x : Int) := by omega
          go_wp2_with fail
          refine HSW.out.mono ?_
          rintro e w4 ⟨rfl, h4, p4⟩
          have HA4 := Lib.hid h4
          have HP4 := Lib.hid (HP2.out.trans p4 (fun _ _ h => h))
          have HGO := Lib.hid (HBE.out.go HCo.out he HX.out HB.out)
          clear h4 p4
          go_wp2_with fail
          go_roundg (m - f)
          case measure => have := HGO.out.1; have := HGO.out.2.1; have := HM'.out; have := HM.out; have := HG.out; omega
          case rel => exact ⟨f, swapS s' x f, rfl, by rw [HM.out], by have := HGO.out.2.1; have := HM'.out; have := HM.out; omega, HL.out.trans (Like.swap _ _ _), HCo.out.swap HX.out HBE.out.1, HGO.out.2.2, HA4.out, HP4.out⟩

set_option maxRecDepth 100000 in
set_option maxHeartbeats 2000000 in
theorem settle_any (W : World) (hb kb : Nat) (lv : Value) (s : Hs) (a : Nat) (h : HeapAt W hb kb lv s) (hc : Cons s) (ha : a < s.m) (hh : ButOne s.lt s.L s.m a) :
    Calls Try.prog 25 #[.pointer (some ⟨hb, 0, none⟩), .int .i64 a] W (SettlePost W hb kb lv s) := by
  have HR := Lib.hid (rise_any W hb kb lv s a h hc ha hh)
  clear h hc ha hh
  go_enter Try.func25, Try.ntmps25
  go_wp2_with fail
  refine HR.out.mono ?_
  rintro e w1 ⟨x, s', rfl, hx, hl, hc, hb', hat, hap⟩
  have HS := Lib.hid (sink_any w1 hb kb lv s' x hat hc (by rw [hl.2.1]; exact hx) hb')
  have HL := Lib.hid hl
  have HP := Lib.hid hap
  clear hx hl hc hb' hat hap
  go_wp2_with fail
  refine HS.out.mono ?_
  rintro e w2 ⟨s2, rfl, hl2, hk2, hat2, hap2⟩
  have HE := Lib.hid hl2
  have HK := Lib.hid hk2
  have HA := Lib.hid hat2
  have HP2 := Lib.hid hap2
  clear hl2 hk2 hat2 hap2
  go_wp2_with fail
  go_returns
  exact ⟨s2, rfl, HL.out.trans HE.out, HK.out, HA.out, HP.out.trans HP2.out (fun _ _ h => h)⟩
end Go.Proofs.Ytademjmnoncieaa
