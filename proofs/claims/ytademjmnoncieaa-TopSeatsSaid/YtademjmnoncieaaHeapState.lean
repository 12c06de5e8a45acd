/-
  The state of a heap: who stands where, and each one's key; what Put, Remove, and an exchange make of it.
  Conditions: none.
-/
import Derived.Test.YtademjmnoncieaaHeapMath
set_option linter.unusedVariables false
namespace Go.Proofs.Ytademjmnoncieaa

structure Hs where
  n : Nat
  m : Nat
  num : Nat → Nat
  den : Nat → Nat
  pl : Nat → Nat
  L : Nat → Nat

def upd (f : Nat → Nat) (i x : Nat) : Nat → Nat := fun j => if j = i then x else f j
theorem upd_same (f : Nat → Nat) (i x : Nat) : upd f i x i = x := by simp [upd]
theorem upd_other {f : Nat → Nat} {i x j : Nat} (h : j ≠ i) : upd f i x j = f j := by simp [upd, h]

/-- Who has a key stands in the row, once, at the place that the key tells. -/
structure Cons (s : Hs) : Prop where
  lo : ∀ i, i < s.m → s.L i < s.n
  on : ∀ i, i < s.m → 0 < s.den (s.L i)
  pl : ∀ i, i < s.m → s.pl (s.L i) = i
  back : ∀ x, x < s.n → 0 < s.den x → s.pl x < s.m ∧ s.L (s.pl x) = x

abbrev Hs.lt (s : Hs) : Nat → Nat → Prop := ahead s.num s.den
abbrev Hs.P (s : Hs) : Nat → Prop := fun i => 0 < s.den i
theorem Hs.o (s : Hs) : Ordr s.P s.lt := ahead_ordr s.num s.den
/-- A heap that is right. -/
structure Okay (s : Hs) : Prop where
  c : Cons s
  h : HeapOrd s.lt s.L s.m

theorem Cons.inj {s : Hs} (c : Cons s) {i j : Nat} (hi : i < s.m) (hj : j < s.m) (h : s.L i = s.L j) : i = j := by
  have h1 := c.pl i hi
  rw [h, c.pl j hj] at h1
  exact h1.symm

/-- Two change places. -/
def swapS (s : Hs) (a b : Nat) : Hs := { s with L := swapF s.L a b, pl := upd (upd s.pl (s.L b) a) (s.L a) b }
theorem Cons.swap {s : Hs} (c : Cons s) {a b : Nat} (ha : a < s.m) (hb : b < s.m) : Cons (swapS s a b) where
  lo := fun i hi => swapF_all (Q := fun x => x < s.n) ha hb c.lo i hi
  on := fun i hi => swapF_all (Q := fun x => 0 < s.den x) ha hb c.on i hi
  pl := fun i hi => by
    show upd (upd s.pl (s.L b) a) (s.L a) b (swapF s.L a b i) = i
    have hi' : i < s.m := hi
    by_cases e2 : i = b
    · subst e2; rw [swapF_right, upd_same]
    · by_cases e1 : i = a
      · subst e1
        rw [swapF_left, upd_other (fun h => e2 (c.inj ha hb h.symm)), upd_same]
      · rw [swapF_other e1 e2, upd_other (fun h => e1 (c.inj hi' ha h)), upd_other (fun h => e2 (c.inj hi' hb h))]
        exact c.pl i hi'
  back := fun x hx hd => by
    show upd (upd s.pl (s.L b) a) (s.L a) b x < s.m ∧ swapF s.L a b (upd (upd s.pl (s.L b) a) (s.L a) b x) = x
    obtain ⟨h1, h2⟩ := c.back x hx hd
    by_cases e2 : x = s.L a
    · subst e2; rw [upd_same, swapF_right]; exact ⟨hb, rfl⟩
    · rw [upd_other e2]
      by_cases e1 : x = s.L b
      · subst e1; rw [upd_same, swapF_left]; exact ⟨ha, rfl⟩
      · rw [upd_other e1, swapF_other (fun h => e2 (by rw [← h2, h])) (fun h => e1 (by rw [← h2, h]))]
        exact ⟨h1, h2⟩

/-- Another key for who has one. -/
def rekey (s : Hs) (x nu de : Nat) : Hs := { s with num := upd s.num x nu, den := upd s.den x de }
theorem Cons.rekey {s : Hs} (c : Cons s) {x nu de : Nat} (hx : 0 < s.den x) (hd : 0 < de) : Cons (rekey s x nu de) where
  lo := c.lo
  on := fun i hi => by
    show 0 < upd s.den x de (s.L i)
    unfold upd
    split
    · exact hd
    · exact c.on i hi
  pl := c.pl
  back := fun y hy h => by
    refine c.back y hy ?_
    have h' : 0 < upd s.den x de y := h
    unfold upd at h'
    split at h'
    · rename_i e; subst e; exact hx
    · exact h'
theorem lt_upd {s : Hs} {x nu de i j : Nat} (hi : i ≠ x) (hj : j ≠ x) : ahead (upd s.num x nu) (upd s.den x de) i j ↔ s.lt i j :=
  ahead_congr (upd_other hi) (upd_other hi) (upd_other hj) (upd_other hj)
theorem Okay.rekey {s : Hs} (k : Okay s) {x nu de : Nat} (hn : x < s.n) (hx : 0 < s.den x) (hd : 0 < de) :
    Cons (rekey s x nu de) ∧ s.pl x < s.m ∧ ButOne (rekey s x nu de).lt s.L s.m (s.pl x) := by
  obtain ⟨h1, h2⟩ := k.c.back x hn hx
  refine ⟨k.c.rekey hx hd, h1, k.h.touched s.o k.c.on h1 fun i j hi hj ni nj => lt_upd (fun e => ni ?_) (fun e => nj ?_)⟩
  · rw [← k.c.pl i hi, e]
  · rw [← k.c.pl j hj, e]

/-- One more, at the end. -/
def addS (s : Hs) (x nu de : Nat) : Hs := { s with m := s.m + 1, L := upd s.L s.m x, pl := upd s.pl x s.m, num := upd s.num x nu, den := upd s.den x de }
theorem Okay.add {s : Hs} (k : Okay s) {x nu de : Nat} (hn : x < s.n) (hx : s.den x = 0) (hd : 0 < de) :
    Cons (addS s x nu de) ∧ ButOne (addS s x nu de).lt (upd s.L s.m x) (s.m + 1) s.m := by
  have hne : ∀ i, i < s.m → s.L i ≠ x := fun i hi e => by have := k.c.on i hi; rw [e, hx] at this; omega
  refine ⟨⟨fun i hi => ?_, fun i hi => ?_, fun i hi => ?_, fun y hy h => ?_⟩, ?_⟩
  · show upd s.L s.m x i < s.n
    have hi' : i < s.m + 1 := hi
    by_cases e : i = s.m
    · subst e; rw [upd_same]; exact hn
    · rw [upd_other e]; exact k.c.lo i (by omega)
  · show 0 < upd s.den x de (upd s.L s.m x i)
    have hi' : i < s.m + 1 := hi
    by_cases e : i = s.m
    · subst e; rw [upd_same, upd_same]; exact hd
    · rw [upd_other e, upd_other (hne i (by omega))]; exact k.c.on i (by omega)
  · show upd s.pl x s.m (upd s.L s.m x i) = i
    have hi' : i < s.m + 1 := hi
    by_cases e : i = s.m
    · subst e; rw [upd_same, upd_same]
    · rw [upd_other e, upd_other (hne i (by omega))]; exact k.c.pl i (by omega)
  · show upd s.pl x s.m y < s.m + 1 ∧ upd s.L s.m x (upd s.pl x s.m y) = y
    have h' : 0 < upd s.den x de y := h
    by_cases e : y = x
    · subst e; rw [upd_same, upd_same]; exact ⟨by omega, rfl⟩
    · rw [upd_other e] at h' ⊢
      obtain ⟨h1, h2⟩ := k.c.back y hy h'
      rw [upd_other (by omega)]
      exact ⟨by omega, h2⟩
  · exact k.h.more fun i j hi hj => lt_upd (hne i hi) (hne j hj)

/-- The last one laid where x stands, and x struck. -/
def cutS (s : Hs) (x : Nat) : Hs := { swapS s (s.pl x) (s.m - 1) with m := s.m - 1, num := upd s.num x 0, den := upd s.den x 0, pl := upd (swapS s (s.pl x) (s.m - 1)).pl x 0 }
theorem Okay.cut {s : Hs} (k : Okay s) {x : Nat} (hn : x < s.n) (hx : 0 < s.den x) :
    Cons (cutS s x) ∧ s.pl x < s.m ∧ (s.pl x < s.m - 1 → ButOne (cutS s x).lt (cutS s x).L (s.m - 1) (s.pl x)) ∧ (s.pl x = s.m - 1 → HeapOrd (cutS s x).lt (cutS s x).L (s.m - 1)) := by
  obtain ⟨h1, h2⟩ := k.c.back x hn hx
  have c1 := k.c.swap (a := s.pl x) (b := s.m - 1) h1 (by omega)
  have hlast : (swapS s (s.pl x) (s.m - 1)).L (s.m - 1) = x := by
    show swapF s.L (s.pl x) (s.m - 1) (s.m - 1) = x
    rw [swapF_right, h2]
  have hne : ∀ i, i < s.m - 1 → (swapS s (s.pl x) (s.m - 1)).L i ≠ x := fun i hi e => by
    have := c1.inj (i := i) (j := s.m - 1) (by show i < s.m; omega) (by show s.m - 1 < s.m; omega) (by rw [e, hlast])
    omega
  have hno : ∀ i, i < s.m → i ≠ s.pl x → s.L i ≠ x := fun i hi ni e => ni (by rw [← k.c.pl i hi, e])
  refine ⟨⟨fun i hi => ?_, fun i hi => ?_, fun i hi => ?_, fun y hy h => ?_⟩, h1, fun hl => ?_, fun hl => ?_⟩
  · have hi' : i < s.m - 1 := hi
    exact c1.lo i (by show i < s.m; omega)
  · have hi' : i < s.m - 1 := hi
    show 0 < upd s.den x 0 ((swapS s (s.pl x) (s.m - 1)).L i)
    rw [upd_other (hne i hi')]
    exact c1.on i (by show i < s.m; omega)
  · have hi' : i < s.m - 1 := hi
    show upd (swapS s (s.pl x) (s.m - 1)).pl x 0 ((swapS s (s.pl x) (s.m - 1)).L i) = i
    rw [upd_other (hne i hi')]
    exact c1.pl i (by show i < s.m; omega)
  · have h' : 0 < upd s.den x 0 y := h
    have e : y ≠ x := fun e => by subst e; rw [upd_same] at h'; omega
    rw [upd_other e] at h'
    obtain ⟨q1, q2⟩ := c1.back y hy h'
    show upd (swapS s (s.pl x) (s.m - 1)).pl x 0 y < s.m - 1 ∧ (swapS s (s.pl x) (s.m - 1)).L (upd (swapS s (s.pl x) (s.m - 1)).pl x 0 y) = y
    rw [upd_other e]
    have q1' : (swapS s (s.pl x) (s.m - 1)).pl y < s.m := q1
    refine ⟨?_, q2⟩
    rcases Nat.lt_or_ge ((swapS s (s.pl x) (s.m - 1)).pl y) (s.m - 1) with q3 | q3
    · exact q3
    · exfalso
      have : (swapS s (s.pl x) (s.m - 1)).pl y = s.m - 1 := by omega
      rw [this, hlast] at q2
      exact e q2.symm
  · have e : s.m - 1 + 1 = s.m := by omega
    refine HeapOrd.cut (P := s.P) (lt := s.lt) s.o (fun i hi => k.c.on i (by omega)) (by rw [e]; exact k.h) hl fun i j hi hj ni nj => lt_upd (hno i (by omega) ni) (hno j (by omega) nj)
  · have e : s.m - 1 + 1 = s.m := by omega
    show HeapOrd _ (swapF s.L (s.pl x) (s.m - 1)) (s.m - 1)
    rw [hl]
    refine HeapOrd.cut_last (lt := s.lt) (by rw [e]; exact k.h) fun i j hi hj => lt_upd (hno i (by omega) (by omega)) (hno j (by omega) (by omega))

/-- Behind settle: the same keys, and all stand right. -/
def Settled (s s' : Hs) : Prop := s'.n = s.n ∧ s'.m = s.m ∧ s'.num = s.num ∧ s'.den = s.den ∧ Okay s'

/-- Who stands first is before all others. -/
theorem Okay.first {s : Hs} (k : Okay s) {x : Nat} (hx : x < s.n) (hd : 0 < s.den x) : 0 < s.m ∧ ¬ s.lt x (s.L 0) := by
  obtain ⟨h1, h2⟩ := k.c.back x hx hd
  have := k.h.first s.o k.c.on (s.pl x) h1
  rw [h2] at this
  exact ⟨by omega, this⟩
theorem Okay.none {s : Hs} (k : Okay s) (h0 : s.m = 0) {x : Nat} (hx : x < s.n) : s.den x = 0 := by
  rcases Nat.eq_zero_or_pos (s.den x) with h | h
  · exact h
  · have := (k.first hx h).1; omega
end Go.Proofs.Ytademjmnoncieaa
