/-
  swap of the program.
  Conditions: the heap lies in memory; both places are in the row.
-/
import Derived.Test.YtademjmnoncieaaHas
import Derived.BigRegion
set_option linter.unusedVariables false
namespace Go.Proofs.Ytademjmnoncieaa
open Go.RowKit

/-- Behind a call that moves keys about in a heap's own blocks. -/
def RetH (v : Value) (hb kb : Nat) (lv : Value) (s' : Hs) (w : World) (e : Ending) (w' : World) : Prop := e = .returned v ∧ HeapAt w' hb kb lv s' ∧ Apart (Foot hb kb lv) w w'

theorem HeapAt.place {W : World} {hb kb g n cap : Nat} {s : Hs} (h : HeapAt W hb kb (.slice (some ⟨g, 0, none⟩) n cap) s) {i : Nat} (hi : i < s.m) : W.cell? ⟨g, i, none⟩ = some (.int .i64 (s.L i)) := by
  obtain ⟨g', cap', hv, _, _, _, _, _, hc, _⟩ := h.row (by omega)
  injection hv with e1 e2 e3
  injection e1 with e1
  injection e1 with e1
  subst e1
  exact hc i hi

set_option maxRecDepth 100000 in
set_option maxHeartbeats 8000000 in
theorem swap_any (W : World) (hb kb : Nat) (lv : Value) (s : Hs) (a b : Nat) (h : HeapAt W hb kb lv s) (ha : a < s.m) (hb' : b < s.m) (la : s.L a < s.n) (lb : s.L b < s.n) :
    Calls Try.prog 26 #[.pointer (some ⟨hb, 0, none⟩), .int .i64 a, .int .i64 b] W (RetH (.tuple #[]) hb kb lv (swapS s a b) W) := by
  obtain ⟨g, cap, rfl, hc1, hc2, hg1, hg2, hg3, hcell, hfz⟩ := h.row (by omega)
  have H := Lib.hid h
  obtain ⟨c0, c1, _, _⟩ := h.heads
  have ca := hcell a ha
  have cb := hcell b hb'
  have fa := hfz a
  have fb := hfz b
  have ha0 := Lib.hid ha
  have hb0 := Lib.hid hb'
  have z1 : (a : Int) < (s.m : Int) := by omega
  have z2 : (b : Int) < (s.m : Int) := by omega
  obtain ⟨x, hx⟩ : ∃ x, s.L a = x := ⟨_, rfl⟩
  obtain ⟨y, hy⟩ : ∃ y, s.L b = y := ⟨_, rfl⟩
  rw [hx] at ca la
  rw [hy] at cb lb
  have HX := Lib.hid hx
  have HY := Lib.hid hy
  obtain ⟨n, hn⟩ : ∃ n, s.n = n := ⟨_, rfl⟩
  obtain ⟨m, hm⟩ : ∃ m, s.m = m := ⟨_, rfl⟩
  rw [hn] at c0 la lb
  rw [hm] at c1 z1 z2 hc1
  have HN := Lib.hid hn
  have HM := Lib.hid hm
  have s1 : (W.setCell ⟨g, a, none⟩ (.int .i64 y)).cell? ⟨g, b, none⟩ = some (.int .i64 y) := by
    rw [(h.set_line ha y).place (i := b) hb']
    show some (Value.int .i64 ((upd s.L a y b : Nat) : Int)) = _
    unfold upd
    by_cases e : b = a
    · rw [if_pos e]
    · rw [if_neg e, hy]
  have s2 : (W.setCell ⟨g, b, none⟩ (.int .i64 x)).cell? ⟨g, a, none⟩ = some (.int .i64 x) := by
    rw [(h.set_line hb' x).place (i := a) ha]
    show some (Value.int .i64 ((upd s.L b x a : Nat) : Int)) = _
    unfold upd
    by_cases e : a = b
    · rw [if_pos e]
    · rw [if_neg e, hx]
  clear h hcell hfz hx hy hn hm ha hb'
  go_enter Try.func26, Try.ntmps26
  go_wp2_with fail
  go_region
  generalize hw1 : ((W.setCell { block := g, off := a } (Value.int IntKind.i64 ↑y)).setCell { block := g, off := b } (Value.int IntKind.i64 ↑x)).drew = w1
  have H1 : HeapAt w1 hb kb (.slice (some ⟨g, 0, none⟩) s.m cap) { s with L := swapF s.L a b } := by
    rw [← hw1, ← HX.out, ← HY.out, ← swapF_upd]
    exact (((H.out.set_line ha0.out (s.L b)).set_line (s := { s with L := upd s.L a (s.L b) }) hb0.out (s.L a)).drewN 1)
  have A1 : Apart (Foot hb kb (.slice (some ⟨g, 0, none⟩) s.m cap)) W w1 := by
    rw [← hw1]
    exact ((((Apart.refl _ W).set (.inl (.inr (.inr rfl))) _).set (.inl (.inr (.inr rfl))) _).drewN 1)
  clear hw1 fa fb ca cb c0 c1 s1 s2
  have HH1 := Lib.hid H1
  have HA1 := Lib.hid A1
  obtain ⟨c0, c1, _, _⟩ := H1.heads
  have ca := H1.place (i := a) ha0.out
  rw [show ({ s with L := swapF s.L a b } : Hs).L a = y by show swapF s.L a b a = y; rw [swapF_left, HY.out]] at ca
  obtain ⟨k0, k1, k2⟩ := H1.key (x := y) (by show y < s.n; rw [HN.out]; exact lb)
  have kf := H1.keyf (y * 3 + 2)
  simp only [HN.out, HM.out] at c0 c1
  generalize hp : ({ s with L := swapF s.L a b } : Hs).pl y = p at k2
  have z3 : (y : Int) < (n : Int) := by omega
  clear H1 A1 k0 k1 hp
  go_wp2_with fail
  go_region
  generalize hw2 : (w1.setCell { block := kb, off := y * 3 + 2 } (Value.int IntKind.i64 ↑a)).drew = w2
  have H2 : HeapAt w2 hb kb (.slice (some ⟨g, 0, none⟩) s.m cap) { s with L := swapF s.L a b, pl := upd s.pl y a } := by
    rw [← hw2]
    exact (HH1.out.set_pl (x := y) (by show y < s.n; rw [HN.out]; exact lb) a).drewN 1
  have A2 : Apart (Foot hb kb (.slice (some ⟨g, 0, none⟩) s.m cap)) W w2 := by
    rw [← hw2]
    exact ((HA1.out.set (.inl (.inr (.inl rfl))) _).drewN 1)
  clear hw2 c0 c1 ca k2 kf HH1 HA1
  have HH2 := Lib.hid H2
  have HA2 := Lib.hid A2
  obtain ⟨c0, c1, _, _⟩ := H2.heads
  have cb := H2.place (i := b) hb0.out
  rw [show ({ s with L := swapF s.L a b, pl := upd s.pl y a } : Hs).L b = x by show swapF s.L a b b = x; rw [swapF_right, HX.out]] at cb
  obtain ⟨k0, k1, k2⟩ := H2.key (x := x) (by show x < s.n; rw [HN.out]; exact la)
  have kf := H2.keyf (x * 3 + 2)
  simp only [HN.out, HM.out] at c0 c1
  generalize hp : ({ s with L := swapF s.L a b, pl := upd s.pl y a } : Hs).pl x = p' at k2
  have z4 : (x : Int) < (n : Int) := by omega
  clear H2 A2 k0 k1 hp
  go_wp2_with fail
  go_region
  go_wp2
  go_returns
  refine ⟨rfl, ?_, (HA2.out.set (.inl (.inr (.inl rfl))) _).drewN 1⟩
  have := (HH2.out.set_pl (x := x) (by show x < s.n; rw [HN.out]; exact la) b).drewN 1
  unfold swapS
  rw [HX.out, HY.out]
  exact this
end Go.Proofs.Ytademjmnoncieaa
