/-
  A member's pass, which of two passes is less, a pass times a weight.
  Conditions: the numbers are words.
-/
import Derived.Test.YtanchjcifhbllaaIndex
import Derived.Test.YtanchjcifhbllaaGcd
import Derived.Shelf.SlSortCmp.QuietGrown
set_option linter.unusedVariables false
namespace Go.Proofs.Ytanchjcifhbllaa
open Go.RowKit Go.Sort

/-- The world but for draws and blocks that were laid. -/
def Grown (w w' : World) : Prop := ∃ q os', w' = grow (w.drewN q) os'
theorem Grown.refl (w : World) : Grown w w := ⟨0, #[], by rw [grow_empty]; rfl⟩
theorem Grown.drewN {w w' : World} (h : Grown w w') (n : Nat) : Grown w (w'.drewN n) := by
  obtain ⟨q, os', rfl⟩ := h
  exact ⟨q + n, os', by show grow ((w.drewN q).drewN n) os' = _; rw [World.drewN_drewN]⟩
theorem Grown.alloc {w w' : World} (h : Grown w w') (o : Obj) : Grown w (w'.alloc o) := by
  obtain ⟨q, os', rfl⟩ := h
  exact ⟨q, os' ++ #[o], by rw [alloc_eq_grow, grow_grow]⟩
theorem grow_setCell (w : World) (os : Array Obj) (a : Addr) (v : Value) (ha : w.heap.size ≤ a.block) : ∃ os', (grow w os).setCell a v = grow w os' := by
  refine ⟨os.modify (a.block - w.heap.size) fun
      | .cells c elem frozen => .cells (if a.spot.isSome then c else c.setIfInBounds a.off v) elem frozen
      | o => o, ?_⟩
  unfold World.setCell grow
  congr 1
  apply Array.ext
  · simp
  · intro i h1 h2
    simp only [Array.getElem_modify, Array.getElem_append]
    by_cases hi : i < w.heap.size
    · rw [if_neg (by omega), dif_pos hi, dif_pos hi]
    · rw [dif_neg hi, dif_neg hi]
      by_cases e : a.block = i
      · rw [if_pos e, if_pos (by omega)]
        have hi2 : i - w.heap.size < os.size := by simp at h2; omega
        generalize os[i - w.heap.size]'hi2 = o
        cases o <;> rfl
      · rw [if_neg e, if_neg (by omega)]
theorem Grown.setCell {w w' : World} (h : Grown w w') {a : Addr} (ha : w.heap.size ≤ a.block) (v : Value) : Grown w (w'.setCell a v) := by
  obtain ⟨q, os', rfl⟩ := h
  obtain ⟨os2, e⟩ := grow_setCell (w.drewN q) os' a v ha
  exact ⟨q, os2, e⟩
theorem Grown.trans {a b c : World} (h : Grown a b) (k : Grown b c) : Grown a c := by
  obtain ⟨q, os, rfl⟩ := h
  obtain ⟨r, os', rfl⟩ := k
  exact ⟨q + r, os ++ os', by show grow (grow ((a.drewN q).drewN r) os) os' = _; rw [grow_grow, World.drewN_drewN]⟩
theorem grow_below (w : World) (os : Array Obj) : Below w.heap.size w (grow w os) := ⟨rfl, rfl, rfl, by simp [grow], fun k hk => by
  show (w.heap ++ os)[k]? = w.heap[k]?
  rw [Array.getElem?_append_left hk]⟩
theorem Grown.below {w w' : World} (h : Grown w w') : Below w.heap.size w w' := by
  obtain ⟨q, os, rfl⟩ := h
  exact (below_drewN (Below.refl w.heap.size w) q).trans (grow_below (w.drewN q) os)
/-- What a call answers that reads, may draw, and lays blocks of its own. -/
def RetG (v : Value) (w : World) (e : Ending) (w' : World) : Prop := e = .returned v ∧ Grown w w'
theorem RetG.ret {v : Value} {w w' : World} {e : Ending} (h : RetG v w e w') : RetB v w e w' := ⟨h.1, h.2.below⟩
theorem grown_met {f : FuncId} {args : Array Value} {w : World} {n : Nat} {os : Array Obj} {v : Value} (h : Calls Try.prog f args (grow (w.drewN n) os) (RetG v (grow (w.drewN n) os))) :
    Calls Try.prog f args (grow (w.drewN n) os) fun e w'' => e = .returned v ∧ ∃ p : GrownBy, w'' = grow (w.drewN p.n) p.os :=
  Calls.grown_of (h.mono fun _ _ h => h)

theorem Try.infoPass : (Try.prog.info? 58).map (fun i => (i.zero, i.size, i.bytes)) = some (some (.agg #[.int .u64 0, .int .u64 0]), 2, 16) := by kernel_rfl
def passA (n d : Nat) : Value := .agg #[.int .u64 n, .int .u64 d]
theorem Try.sizePass (a b : Value) : (Try.prog.info? 58).map (·.size) = some (#[a, b] : Array Value).size := by
  show _ = some 2
  kernel_rfl

theorem pass_any (m : Mb) (hw : m.w ≤ 1000) (W : World) : Calls Try.prog 33 #[mbA m] W (RetG (passA m.n m.w) W) := by
  obtain ⟨m1, m2, m3, m4⟩ := m
  simp only at hw
  unfold mbA passA
  have hb : (m2 : Int) < 18446744073709551616 := by omega
  go_enter Try.func33, Try.ntmps33
  go_wp2
  go_returns
  exact ⟨rfl, ((Grown.refl W).alloc _).alloc _⟩

theorem cmp_lt {x y : Nat} (h : x < y) : cmpN x y = -1 := by unfold cmpN; rw [if_pos h]
theorem cmp_ge {x y : Nat} (h : ¬ x < y) : decide (cmpN x y < 0) = false := by
  unfold cmpN
  rw [if_neg h]
  split <;> rfl
theorem less_any (a b c d : Nat) (b1 : a < 18446744073709551616) (b2 : b < 18446744073709551616) (b3 : c < 18446744073709551616) (b4 : d < 18446744073709551616) (hb : (b == 0) = false) (hd : (d == 0) = false) (W : World) :
    Calls Try.prog 53 #[passA a b, passA c d] W (RetG (.bool (decide (a * d < c * b))) W) := by
  have HC := Lib.hid (fun W => compare_ok a b c d b1 b2 b3 b4 hb hd W)
  unfold passA
  have hv : decide (cmpN (a * d) (c * b) < 0) = decide (a * d < c * b) := by
    by_cases h : a * d < c * b
    · rw [cmp_lt h, decide_eq_true h]; rfl
    · rw [cmp_ge h, decide_eq_false h]
  rw [← hv]
  generalize cmpN (a * d) (c * b) = r at *
  clear hb hd hv
  go_enter Try.func53, Try.ntmps53
  go_wp2_with (go_at_call 63; refine (HC.out _).mono ?_; rintro e w1 ⟨rfl, rfl⟩)
  all_goals go_ret
  all_goals exact ⟨by simp_all, ((Grown.refl W).alloc _).alloc _⟩

/-! ### A pass times a weight -/
theorem u64_small {a : Nat} (h : a < 18446744073709551616) : IntKind.u64.wrap (a : Int) = (a : Int) := by rw [IntKind.wrap_u64]; omega
theorem quo_up {a b c : Nat} (hc : 0 < c) : upN (a, c) b = if rOf (a * b) c = 0 then qOf (a * b) c else qOf (a * b) c + 1 := by
  obtain ⟨h1, h2⟩ := upN_spec (f := (a, c)) b hc
  simp only at h1 h2
  have hq := Nat.div_add_mod (a * b) c
  have hm := Nat.mod_lt (a * b) hc
  rw [Nat.mul_comm c] at hq
  unfold rOf qOf
  split
  · exact up_one h1 h2 (by omega) (by omega)
  · exact up_one h1 h2 (by rw [Nat.add_mul, Nat.one_mul]; omega) (by rw [Nat.add_mul, Nat.one_mul]; omega)
theorem ceil_small (a b c : Nat) (b1 : a < 18446744073709551616) (b2 : b < 18446744073709551616) (b3 : c < 18446744073709551616) (hc : 0 < c) (hq : qOf (a * b) c < 18446744073709551615) (W : World) :
    Calls Try.prog 57 #[.int .u64 a, .int .u64 b, .int .u64 c] W (RetB (.tuple #[.int .u64 (upN (a, c) b), .int .i64 0]) W) := by
  have ho : hiOf (a * b) < c := by
    unfold hiOf qOf at *
    rw [Nat.div_lt_iff_lt_mul (by decide)]
    have := (Nat.div_lt_iff_lt_mul hc).1 hq
    have k : 18446744073709551615 * c ≤ c * 18446744073709551616 := by omega
    omega
  have hc0 : (c == 0) = false := by simp; omega
  rw [quo_up hc]
  by_cases hr : rOf (a * b) c = 0
  · rw [if_pos hr]
    exact (ceil_whole a b c b1 b2 b3 hc0 ho (by rw [hr]; rfl) W).mono fun _ _ h => h
  · rw [if_neg hr]
    exact (ceil_up a b c b1 b2 b3 hc0 ho (by simpa using hr) (by simp; omega) hq W).mono fun _ _ h => ⟨by rw [h.1]; rfl, h.2⟩
theorem muldiv_small (a b c : Nat) (b1 : a < 18446744073709551616) (b2 : b < 18446744073709551616) (b3 : c < 18446744073709551616) (hc : 0 < c) (hq : qOf (a * b) c < 18446744073709551615) (W : World) :
    Calls Try.prog 58 #[.int .u64 a, .int .u64 b, .int .u64 c] W (RetB (.tuple #[.int .u64 (downN (a, c) b), .int .u64 (rOf (a * b) c), .int .i64 0]) W) := by
  have ho : hiOf (a * b) < c := by
    unfold hiOf qOf at *
    rw [Nat.div_lt_iff_lt_mul (by decide)]
    have := (Nat.div_lt_iff_lt_mul hc).1 hq
    have k : 18446744073709551615 * c ≤ c * 18446744073709551616 := by omega
    omega
  have hc0 : (c == 0) = false := by simp; omega
  exact (muldiv_ok a b c b1 b2 b3 hc0 ho W).mono fun _ _ h => h

/-- A fraction that is at most C, and its bounds. -/
structure Frac (f : Nat × Nat) : Prop where
  pos : 0 < f.2
  den : f.2 ≤ 1000
  num : f.1 ≤ 1099511627776 * f.2
theorem Frac.up {f : Nat × Nat} (h : Frac f) {w : Nat} (hw : w ≤ 1000) : upN f w ≤ 1099511627776000 := by
  have := up_le (w := w) h.pos h.num
  omega
theorem Frac.down {f : Nat × Nat} (h : Frac f) {w : Nat} (hw : w ≤ 1000) : downN f w ≤ 1099511627776000 := by
  have := down_le (w := w) h.pos h.num
  omega
theorem times_any (f : Nat × Nat) (w : Nat) (h : Frac f) (hw : w ≤ 1000) (W : World) :
    Calls Try.prog 38 #[passA f.1 f.2, .int .i64 w] W (RetB (.tuple #[.int .u64 (upN f w), .int .u64 (downN f w + 1 : Nat)]) W) := by
  have hd := h.down hw
  have h1 := h.num
  have h2 := h.den
  have HC := Lib.hid (fun W => ceil_small f.1 w f.2 (by omega) (by omega) (by omega) h.pos (by unfold downN at hd; unfold qOf; omega) W)
  have HM := Lib.hid (fun W => muldiv_small f.1 w f.2 (by omega) (by omega) (by omega) h.pos (by unfold downN at hd; unfold qOf; omega) W)
  obtain ⟨n, d⟩ := f
  simp only at HC HM
  unfold passA
  generalize upN (n, d) w = u at *
  generalize rOf (n * w) d = r at *
  obtain ⟨q, hq⟩ : ∃ q, downN (n, d) w = q := ⟨_, rfl⟩
  obtain ⟨q1, hq1⟩ : ∃ q1, q + 1 = q1 := ⟨_, rfl⟩
  rw [hq] at HM hd ⊢
  rw [hq1]
  have y1 : (q : Int) + 1 = (q1 : Int) := by omega
  have y2 : (q : Int) ≤ 1099511627776000 := by omega
  have y3 : (w : Int) ≤ 1000 := by omega
  clear h h1 h2 hq hq1 hd hw
  go_enter Try.func38, Try.ntmps38
  go_wp2_with fail
  have hb0 := (Below.refl W.heap.size W).alloc (Nat.le_refl _) (.cells #[.int .u64 n, .int .u64 d] 58)
  have HB0 := Lib.hid hb0
  have c0 : (W.alloc (.cells #[.int .u64 n, .int .u64 d] 58)).cell? ⟨W.heap.size, 0, none⟩ = some (.int .u64 n) := World.cell?_alloc_new (w := W) _ _ 0
  have c1 : (W.alloc (.cells #[.int .u64 n, .int .u64 d] 58)).cell? ⟨W.heap.size, 1, none⟩ = some (.int .u64 d) := World.cell?_alloc_new (w := W) _ _ 1
  have hz : W.heap.size < (W.alloc (.cells #[.int .u64 n, .int .u64 d] 58)).heap.size := by simp
  generalize hw0 : W.alloc (.cells #[.int .u64 n, .int .u64 d] 58) = w0 at *
  clear hw0 hb0
  refine (HC.out _).mono ?_
  rintro e w1 ⟨rfl, hb⟩
  have HB1 := Lib.hid hb
  have e0 := (hb.cell (p := ⟨W.heap.size, 0, none⟩) hz).trans c0
  have e1 := (hb.cell (p := ⟨W.heap.size, 1, none⟩) hz).trans c1
  clear hb c0 c1 hz
  go_wp2_with fail
  refine (HM.out _).mono ?_
  rintro e w2 ⟨rfl, hb⟩
  have HB2 := Lib.hid hb
  clear hb e0 e1
  go_wp2
  go_ret2
  exact ⟨rfl, HB0.out.trans ((HB1.out.trans (HB2.out.mono HB1.out.size)).mono HB0.out.size)⟩
end Go.Proofs.Ytanchjcifhbllaa
