/-
  slices.IndexFunc over members; where a member of an id stands; who is behind an id.
  Conditions: the predicate, whatever the world, answers so, and leaves all that was.
-/
import Derived.Test.YtpfpojehcjmfnaaGreatT05
import Derived.Test.YtpfpojehcjmfnaaGreatT02
import Derived.Test.YtpfpojehcjmfnaaGreatT01
import Derived.Test.YtpfpojehcjmfnaaGreatProg
import Derived.WalkKit
import Derived.WalkLawsBesides
import Derived.Below
import Derived.Lib.Hide
import Derived.Handy
import Derived.ProofKit
import Derived.Deep.LoopGhost
import Derived.Deep.QuietTactic
import Derived.BigQuiet
import Derived.IntWalk
import Derived.LoopTactic
import Derived.OwnWalk
import Derived.Laws.MakeOwn
import Derived.Laws.Rows
import Derived.OpenShut
import Derived.Deep.RegionHeld3
import Derived.Deep.AppendLies
import Derived.Maps.AppendAt
import Derived.WalkSpells
import Derived.Lib.SliceRun
import Derived.BigRegion
import Derived.Deep.Cut
import Derived.Deep.CutRange
import Derived.Shelf.RegionOpenPlain

/-
  Rings in numbers: who has the least pass, the floor, what each call makes of a ring.
  Conditions: none.
-/
set_option linter.unusedVariables false
namespace Go.Proofs.YtpfpojehcjmfnaaGreat.Rn

/-- A member: its id, weight and count, and whether it is on. -/
structure Mb where
  id : Nat
  w : Nat
  n : Nat
  on : Bool
/-- A ring: its limit, the floor that it keeps, and its members. -/
structure Rg where
  lim : Nat
  num : Nat
  den : Nat
  l : List Mb
def mb0 : Mb := ⟨0, 0, 0, false⟩

def lessM (a b : Mb) : Bool := decide (a.n * b.w < b.n * a.w)
def takes (m : Mb) (b : Option (Nat × Mb)) : Bool := m.on && (match b with | none => true | some x => lessM m x.2)
def bestGo : List Mb → Nat → Option (Nat × Mb) → Option (Nat × Mb)
  | [], _, b => b
  | m :: r, i, b => bestGo r (i + 1) (if takes m b = true then some (i, m) else b)
def best (l : List Mb) : Option (Nat × Mb) := bestGo l 0 none
def idxI (b : Option (Nat × Mb)) : Int := match b with | none => -1 | some x => (x.1 : Int)
theorem pass_trans {a b c d e f : Nat} (hd : 0 < d) (h1 : a * d ≤ c * b) (h2 : c * f ≤ e * d) : a * f ≤ e * b := by
  have k1 : a * d * f ≤ c * b * f := Nat.mul_le_mul_right f h1
  have k2 : c * f * b ≤ e * d * b := Nat.mul_le_mul_right b h2
  have e1 : a * d * f = a * f * d := by rw [Nat.mul_assoc, Nat.mul_comm d f, ← Nat.mul_assoc]
  have e2 : c * b * f = c * f * b := by rw [Nat.mul_assoc, Nat.mul_comm b f, ← Nat.mul_assoc]
  have e3 : e * d * b = e * b * d := by rw [Nat.mul_assoc, Nat.mul_comm d b, ← Nat.mul_assoc]
  rw [e1, e2] at k1
  rw [e3] at k2
  exact Nat.le_of_mul_le_mul_right (Nat.le_trans k1 k2) hd
theorem bestGo_spec : ∀ (l : List Mb) (i : Nat) (b : Option (Nat × Mb)), (∀ m ∈ l, 0 < m.w) → (∀ y, b = some y → 0 < y.2.w) →
    (bestGo l i b = none → b = none ∧ ∀ m ∈ l, m.on = false) ∧
    (∀ x, bestGo l i b = some x → (b = some x ∨ ∃ j, x.1 = i + j ∧ l[j]? = some x.2 ∧ x.2.on = true) ∧ 0 < x.2.w ∧ (∀ m ∈ l, m.on = true → x.2.n * m.w ≤ m.n * x.2.w) ∧ (∀ y, b = some y → x.2.n * y.2.w ≤ y.2.n * x.2.w))
  | [], i, b, hl, hb => by
    refine ⟨fun h => ⟨h, fun m hm => (by cases hm)⟩, fun x h => ⟨.inl h, hb x h, fun m hm => (by cases hm), fun y hy => ?_⟩⟩
    unfold bestGo at h
    rw [h] at hy
    injection hy with hy
    subst hy
    exact Nat.le_refl _
  | m :: r, i, b, hl, hb => by
    have hm : 0 < m.w := hl m (List.mem_cons_self ..)
    have hr : ∀ x ∈ r, 0 < x.w := fun x hx => hl x (List.mem_cons_of_mem _ hx)
    unfold bestGo
    by_cases ht : takes m b = true
    · rw [if_pos ht]
      have ih := bestGo_spec r (i + 1) (some (i, m)) hr (fun y hy => by injection hy with hy; subst hy; exact hm)
      refine ⟨fun h => ?_, fun x h => ?_⟩
      · exact absurd (ih.1 h).1 (by simp)
      · obtain ⟨k1, k2, k3, k4⟩ := ih.2 x h
        have k5 := k4 (i, m) rfl
        have hon : m.on = true := by unfold takes at ht; rw [Bool.and_eq_true] at ht; exact ht.1
        refine ⟨.inr ?_, k2, fun y hy hyo => ?_, fun y hy => ?_⟩
        · rcases k1 with k1 | ⟨j, j1, j2, j3⟩
          · injection k1 with k1
            subst k1
            exact ⟨0, rfl, rfl, hon⟩
          · exact ⟨j + 1, by omega, by simpa using j2, j3⟩
        · rcases List.mem_cons.1 hy with rfl | hy
          · exact k5
          · exact k3 y hy hyo
        · subst hy
          have : m.n * y.2.w < y.2.n * m.w := by
            unfold takes lessM at ht
            rw [Bool.and_eq_true] at ht
            simpa using ht.2
          exact pass_trans hm k5 (Nat.le_of_lt this)
    · rw [if_neg ht]
      have ih := bestGo_spec r (i + 1) b hr hb
      refine ⟨fun h => ?_, fun x h => ?_⟩
      · obtain ⟨h1, h2⟩ := ih.1 h
        subst h1
        refine ⟨rfl, fun y hy => ?_⟩
        rcases List.mem_cons.1 hy with rfl | hy
        · unfold takes at ht
          simpa using ht
        · exact h2 y hy
      · obtain ⟨k1, k2, k3, k4⟩ := ih.2 x h
        refine ⟨?_, k2, fun y hy hyo => ?_, k4⟩
        · rcases k1 with k1 | ⟨j, j1, j2, j3⟩
          · exact .inl k1
          · exact .inr ⟨j + 1, by omega, by simpa using j2, j3⟩
        · rcases List.mem_cons.1 hy with rfl | hy
          · have hs : ∃ z, b = some z ∧ ¬ y.n * z.2.w < z.2.n * y.w := by
              unfold takes lessM at ht
              rw [hyo] at ht
              cases b with
              | none => simp at ht
              | some z => exact ⟨z, rfl, by simpa using ht⟩
            obtain ⟨z, rfl, hz⟩ := hs
            exact pass_trans (hb z rfl) (k4 z rfl) (by omega)
          · exact k3 y hy hyo
theorem best_none {l : List Mb} (hl : ∀ m ∈ l, 0 < m.w) (h : best l = none) : ∀ m ∈ l, m.on = false := ((bestGo_spec l 0 none hl (fun y hy => by cases hy)).1 h).2
theorem best_some {l : List Mb} (hl : ∀ m ∈ l, 0 < m.w) {x : Nat × Mb} (h : best l = some x) : l[x.1]? = some x.2 ∧ x.2.on = true ∧ ∀ m ∈ l, m.on = true → x.2.n * m.w ≤ m.n * x.2.w := by
  obtain ⟨k1, _, k3, _⟩ := (bestGo_spec l 0 none hl (fun y hy => by cases hy)).2 x h
  rcases k1 with k1 | ⟨j, j1, j2, j3⟩
  · cases k1
  · rw [show x.1 = j by omega]
    exact ⟨j2, j3, k3⟩
theorem best_on {l : List Mb} (hl : ∀ m ∈ l, 0 < m.w) {m : Mb} (hm : m ∈ l) (ho : m.on = true) : ∃ x, best l = some x := by
  cases h : best l with
  | none => have := best_none hl h m hm; rw [ho] at this; cases this
  | some x => exact ⟨x, rfl⟩

def floorN (s : Rg) : Nat × Nat := match best s.l with | none => (s.num, s.den) | some x => (x.2.n, x.2.w)
def upN (f : Nat × Nat) (w : Nat) : Nat := (f.1 * w + f.2 - 1) / f.2
def downN (f : Nat × Nat) (w : Nat) : Nat := f.1 * w / f.2
def clampN (f : Nat × Nat) (w n : Nat) : Nat := min (max n (upN f w)) (downN f w + 1)
theorem downN_spec {f : Nat × Nat} (w : Nat) (hd : 0 < f.2) : downN f w * f.2 ≤ f.1 * w ∧ f.1 * w < downN f w * f.2 + f.2 := by
  unfold downN
  have h := Nat.div_add_mod (f.1 * w) f.2
  have hm := Nat.mod_lt (f.1 * w) hd
  rw [Nat.mul_comm f.2] at h
  omega
theorem upN_spec {f : Nat × Nat} (w : Nat) (hd : 0 < f.2) : f.1 * w ≤ upN f w * f.2 ∧ upN f w * f.2 < f.1 * w + f.2 := by
  unfold upN
  have h := Nat.div_add_mod (f.1 * w + f.2 - 1) f.2
  have hm := Nat.mod_lt (f.1 * w + f.2 - 1) hd
  rw [Nat.mul_comm f.2] at h
  omega
theorem mul_lt_of {a b d : Nat} (h : a * d < b * d) : a < b := Nat.lt_of_mul_lt_mul_right h
theorem down_one {a b d x : Nat} (h1 : a * d ≤ x) (h2 : x < a * d + d) (k1 : b * d ≤ x) (k2 : x < b * d + d) : a = b := by
  have e1 : a < b + 1 := mul_lt_of (d := d) (by rw [Nat.add_mul, Nat.one_mul]; omega)
  have e2 : b < a + 1 := mul_lt_of (d := d) (by rw [Nat.add_mul, Nat.one_mul]; omega)
  omega
theorem up_one {a b d x : Nat} (h1 : x ≤ a * d) (h2 : a * d < x + d) (k1 : x ≤ b * d) (k2 : b * d < x + d) : a = b := by
  have e1 : a < b + 1 := mul_lt_of (d := d) (by rw [Nat.add_mul, Nat.one_mul]; omega)
  have e2 : b < a + 1 := mul_lt_of (d := d) (by rw [Nat.add_mul, Nat.one_mul]; omega)
  omega
theorem up_down {f : Nat × Nat} (w : Nat) (hd : 0 < f.2) : downN f w ≤ upN f w ∧ upN f w ≤ downN f w + 1 := by
  obtain ⟨a1, a2⟩ := downN_spec w hd
  obtain ⟨b1, b2⟩ := upN_spec w hd
  refine ⟨?_, ?_⟩
  · have : downN f w < upN f w + 1 := mul_lt_of (d := f.2) (by rw [Nat.add_mul, Nat.one_mul]; omega)
    omega
  · have : upN f w < downN f w + 1 + 1 := mul_lt_of (d := f.2) (by rw [Nat.add_mul, Nat.add_mul, Nat.one_mul]; omega)
    omega
theorem up_le {f : Nat × Nat} {w C : Nat} (hd : 0 < f.2) (h : f.1 ≤ C * f.2) : upN f w ≤ C * w := by
  obtain ⟨b1, b2⟩ := upN_spec w hd
  have k : f.1 * w ≤ C * w * f.2 := by
    have := Nat.mul_le_mul_right w h
    rwa [Nat.mul_assoc, Nat.mul_comm f.2 w, ← Nat.mul_assoc] at this
  have : upN f w < C * w + 1 := mul_lt_of (d := f.2) (by rw [Nat.add_mul, Nat.one_mul]; omega)
  omega
theorem down_le {f : Nat × Nat} {w C : Nat} (hd : 0 < f.2) (h : f.1 ≤ C * f.2) : downN f w ≤ C * w := Nat.le_trans (up_down w hd).1 (up_le hd h)
theorem clamp_le {f : Nat × Nat} {w C n : Nat} (hd : 0 < f.2) (h : f.1 ≤ C * f.2) (hn : n ≤ C * w) : clampN f w n ≤ C * w := by
  have := up_le (w := w) hd h
  unfold clampN
  omega
def cutAt (l : List Mb) (k : Nat) : List Mb := l.take k ++ l.drop (k + 1)
def bigI (l : List Mb) (id : Nat) : Nat := (l.findIdx? fun x => decide (id < x.id)).getD l.length
def insM (l : List Mb) (m : Mb) : List Mb := l.take (bigI l m.id) ++ [m] ++ l.drop (bigI l m.id)
def findK (l : List Mb) (id : Int) : Option Nat := l.findIdx? fun m => (m.id : Int) == id
/-- The document's way to lay a member in. -/
def withL (l : List Mb) (m : Mb) : List Mb := (l.filter fun x => decide (x.id < m.id)) ++ [m] ++ l.filter fun x => decide (m.id < x.id)
def Sorted (l : List Mb) : Prop := l.Pairwise fun a b => a.id < b.id

theorem withL_ins : ∀ (l : List Mb) (m : Mb), Sorted l → (∀ x ∈ l, x.id ≠ m.id) → withL l m = insM l m
  | [], m, _, _ => rfl
  | x :: r, m, hs, hn => by
    have hs' := List.pairwise_cons.1 hs
    have hx : x.id ≠ m.id := hn x (List.mem_cons_self ..)
    by_cases h : x.id < m.id
    · have ih := withL_ins r m hs'.2 (fun y hy => hn y (List.mem_cons_of_mem _ hy))
      have h2 : ¬ m.id < x.id := by omega
      unfold withL insM bigI at *
      rw [List.filter_cons, if_pos (by simpa using h), List.filter_cons, if_neg (by simpa using h2), List.findIdx?_cons, if_neg (by simpa using h2)]
      rw [List.cons_append, List.cons_append, ih]
      cases hf : r.findIdx? fun x => decide (m.id < x.id) with
      | none => simp
      | some k => simp
    · have h2 : m.id < x.id := by omega
      have hall : ∀ y ∈ r, m.id < y.id := fun y hy => Nat.lt_trans h2 (hs'.1 y hy)
      unfold withL insM bigI
      rw [List.filter_cons, if_neg (by simpa using h), List.filter_cons, if_pos (by simpa using h2), List.findIdx?_cons, if_pos (by simpa using h2)]
      rw [List.filter_eq_nil_iff.2 (fun y hy => by have := hall y hy; simp; omega), List.filter_eq_self.2 (fun y hy => by simpa using hall y hy)]
      simp
theorem findK_some {l : List Mb} {id : Int} {k : Nat} (h : findK l id = some k) : ∃ m, l[k]? = some m ∧ (m.id : Int) = id := by
  unfold findK at h
  rw [List.findIdx?_eq_some_iff_getElem] at h
  obtain ⟨hk, h1, _⟩ := h
  exact ⟨l[k], List.getElem?_eq_getElem hk, by simpa using h1⟩
theorem findK_none {l : List Mb} {id : Int} (h : findK l id = none) : ∀ m ∈ l, (m.id : Int) ≠ id := by
  unfold findK at h
  rw [List.findIdx?_eq_none_iff] at h
  exact fun m hm => by simpa using h m hm
def joinR (s : Rg) (id w : Nat) : Rg := { s with l := insM s.l ⟨id, w, upN (floorN s) w, true⟩ }
def leaveR (s : Rg) (k : Nat) : Rg := { s with num := (floorN s).1, den := (floorN s).2, l := cutAt s.l k }
def blockR (s : Rg) (k : Nat) (m : Mb) : Rg := { s with num := (floorN s).1, den := (floorN s).2, l := s.l.set k { m with on := false } }
def wakeR (s : Rg) (k : Nat) (m : Mb) : Rg := { s with l := s.l.set k { m with n := clampN (floorN s) m.w m.n, on := true } }
def weighM (s : Rg) (m : Mb) (w : Nat) : Mb := { m with w := w, n := if m.on = true then clampN (floorN s) w (upN (m.n, m.w) w) else upN (m.n, m.w) w }
def weighR (s : Rg) (k : Nat) (m : Mb) (w : Nat) : Rg := { s with l := s.l.set k (weighM s m w) }
def pick0 (s : Rg) (k : Nat) (m : Mb) : Rg := { s with l := s.l.set k { m with n := m.n + 1 } }
def wholeN (s : Rg) : Nat := (floorN s).1 / (floorN s).2
def shift (q : Nat) (m : Mb) : Mb := { m with n := m.n - q * m.w }
def rebaseR (s : Rg) : Rg := { s with l := s.l.map (shift (wholeN s)) }
def pickR (s : Rg) (k : Nat) (m : Mb) : Rg := if s.lim ≤ m.n + 1 then rebaseR (pick0 s k m) else pick0 s k m

def joinA (s : Rg) (id w : Int) : Int × Rg :=
  if id < 1 ∨ 200 < id then (20, s) else if w < 1 ∨ 1000 < w then (22, s) else
    match findK s.l id with
    | some _ => (11, s)
    | none => if 32 ≤ s.l.length then (13, s) else (0, joinR s id.toNat w.toNat)
def leaveA (s : Rg) (id : Int) : Int × Rg := match findK s.l id with | none => (10, s) | some k => (0, leaveR s k)
def memK (s : Rg) (k : Nat) : Mb := (s.l[k]?).getD mb0
def blockA (s : Rg) (id : Int) : Int × Rg := match findK s.l id with | none => (10, s) | some k => if (memK s k).on = true then (0, blockR s k (memK s k)) else (15, s)
def wakeA (s : Rg) (id : Int) : Int × Rg := match findK s.l id with | none => (10, s) | some k => if (memK s k).on = true then (15, s) else (0, wakeR s k (memK s k))
def weighA (s : Rg) (id w : Int) : Int × Rg := match findK s.l id with | none => (10, s) | some k => if w < 1 ∨ 1000 < w then (22, s) else (0, weighR s k (memK s k) w.toNat)
def pickA (s : Rg) : Int × Rg := match best s.l with | none => (0, s) | some x => ((x.2.id : Int), pickR s x.1 x.2)
/-- One of the five calls. -/
def callA (s : Rg) (kind id w : Int) : Int × Rg :=
  if kind = 0 then joinA s id w else if kind = 1 then leaveA s id else if kind = 2 then blockA s id else if kind = 3 then wakeA s id else if kind = 4 then weighA s id w else (0, s)
theorem memK_at {s : Rg} {k : Nat} {m : Mb} (h : s.l[k]? = some m) : memK s k = m := by unfold memK; rw [h]; rfl

structure Fit (C : Nat) (s : Rg) : Prop where
  cap : 0 < C
  len : s.l.length ≤ 32
  mem : ∀ m ∈ s.l, 1 ≤ m.id ∧ m.id ≤ 200 ∧ 1 ≤ m.w ∧ m.w ≤ 1000 ∧ m.n ≤ C * m.w
  den0 : 0 < s.den
  den1 : s.den ≤ 1000
  num : s.num ≤ C * s.den
  srt : Sorted s.l
theorem Fit.pos {C : Nat} {s : Rg} (h : Fit C s) : ∀ m ∈ s.l, 0 < m.w := fun m hm => (h.mem m hm).2.2.1
theorem Fit.floor {C : Nat} {s : Rg} (h : Fit C s) : 0 < (floorN s).2 ∧ (floorN s).2 ≤ 1000 ∧ (floorN s).1 ≤ C * (floorN s).2 := by
  unfold floorN
  cases hb : best s.l with
  | none => exact ⟨h.den0, h.den1, h.num⟩
  | some x =>
    obtain ⟨h1, _, _⟩ := best_some h.pos hb
    obtain ⟨_, _, m1, m2, m3⟩ := h.mem x.2 (List.mem_of_getElem? h1)
    exact ⟨m1, m2, m3⟩
theorem Fit.more {C : Nat} {s : Rg} (h : Fit C s) {D : Nat} (hd : C ≤ D) : Fit D s where
  cap := Nat.lt_of_lt_of_le h.cap hd
  len := h.len
  mem := fun m hm => by
    obtain ⟨a, b, c, d, e⟩ := h.mem m hm
    exact ⟨a, b, c, d, Nat.le_trans e (Nat.mul_le_mul_right _ hd)⟩
  den0 := h.den0
  den1 := h.den1
  num := Nat.le_trans h.num (Nat.mul_le_mul_right _ hd)
  srt := h.srt
theorem sorted_set {l : List Mb} (hs : Sorted l) {k : Nat} {x m : Mb} (hk : l[k]? = some x) (he : x.id = m.id) : Sorted (l.set k m) := by
  unfold Sorted at *
  rw [List.pairwise_iff_getElem] at *
  intro i j hi hj hij
  rw [List.length_set] at hi hj
  rw [List.getElem_set, List.getElem_set]
  have hkl := (List.getElem?_eq_some_iff.1 hk).1
  have hkx := (List.getElem?_eq_some_iff.1 hk).2
  have := hs i j hi hj hij
  by_cases e1 : k = i
  · subst e1
    rw [if_pos rfl, if_neg (by omega), ← he, ← hkx]
    exact this
  · rw [if_neg e1]
    by_cases e2 : k = j
    · subst e2
      rw [if_pos rfl, ← he, ← hkx]
      exact this
    · rw [if_neg e2]
      exact this
theorem sorted_sub {l l' : List Mb} (h : l'.Sublist l) (hs : Sorted l) : Sorted l' := List.Pairwise.sublist h hs
theorem cut_sub (l : List Mb) (k : Nat) : (cutAt l k).Sublist l := by
  unfold cutAt
  rw [← List.eraseIdx_eq_take_drop_succ]
  exact List.eraseIdx_sublist l k
theorem cut_mem {l : List Mb} {k : Nat} {m : Mb} (h : m ∈ cutAt l k) : m ∈ l := (cut_sub l k).subset h
theorem sorted_withL {l : List Mb} {m : Mb} (hs : Sorted l) : Sorted (withL l m) := by
  unfold withL Sorted at *
  rw [List.pairwise_append, List.pairwise_append]
  refine ⟨⟨List.Pairwise.sublist List.filter_sublist hs, by simp, fun a ha b hb => ?_⟩, List.Pairwise.sublist List.filter_sublist hs, fun a ha b hb => ?_⟩
  · rw [List.mem_singleton] at hb
    subst hb
    simpa using (List.mem_filter.1 ha).2
  · have h2 : m.id < b.id := by simpa using (List.mem_filter.1 hb).2
    rcases List.mem_append.1 ha with ha | ha
    · have h1 : a.id < m.id := by simpa using (List.mem_filter.1 ha).2
      omega
    · rw [List.mem_singleton] at ha
      subst ha
      exact h2
theorem ins_mem {l : List Mb} {m x : Mb} (h : x ∈ insM l m) : x = m ∨ x ∈ l := by
  unfold insM at h
  rcases List.mem_append.1 h with h | h
  · rcases List.mem_append.1 h with h | h
    · exact .inr (List.mem_of_mem_take h)
    · exact .inl (by simpa using h)
  · exact .inr (List.mem_of_mem_drop h)
theorem ins_length (l : List Mb) (m : Mb) : (insM l m).length = l.length + 1 := by
  unfold insM
  have := List.take_append_drop (bigI l m.id) l
  have h2 := congrArg List.length this
  rw [List.length_append] at h2
  rw [List.length_append, List.length_append]
  simp only [List.length_cons, List.length_nil]
  omega
theorem set_mem {l : List Mb} {k : Nat} {m x : Mb} (h : x ∈ l.set k m) : x = m ∨ x ∈ l := (List.mem_or_eq_of_mem_set h).symm

theorem Fit.join {C : Nat} {s : Rg} (h : Fit C s) {id w : Nat} (h1 : 1 ≤ id) (h2 : id ≤ 200) (h3 : 1 ≤ w) (h4 : w ≤ 1000) (hn : ∀ x ∈ s.l, x.id ≠ id) (hl : s.l.length < 32) : Fit C (joinR s id w) := by
  obtain ⟨f1, f2, f3⟩ := h.floor
  refine ⟨h.cap, ?_, fun m hm => ?_, h.den0, h.den1, h.num, ?_⟩
  · show (insM s.l _).length ≤ 32
    rw [ins_length]
    omega
  · rcases ins_mem hm with rfl | hm
    · exact ⟨h1, h2, h3, h4, up_le f1 f3⟩
    · exact h.mem m hm
  · show Sorted (insM s.l _)
    rw [← withL_ins _ _ h.srt (fun x hx => hn x hx)]
    exact sorted_withL h.srt
theorem Fit.leave {C : Nat} {s : Rg} (h : Fit C s) (k : Nat) : Fit C (leaveR s k) := by
  obtain ⟨f1, f2, f3⟩ := h.floor
  exact ⟨h.cap, Nat.le_trans (cut_sub s.l k).length_le h.len, fun m hm => h.mem m (cut_mem hm), f1, f2, f3, sorted_sub (cut_sub s.l k) h.srt⟩
theorem Fit.set {C : Nat} {s : Rg} (h : Fit C s) {k : Nat} {x m : Mb} (hk : s.l[k]? = some x) (he : x.id = m.id) (h3 : 1 ≤ m.w) (h4 : m.w ≤ 1000) (hn : m.n ≤ C * m.w) : Fit C { s with l := s.l.set k m } := by
  refine ⟨h.cap, ?_, fun y hy => ?_, h.den0, h.den1, h.num, sorted_set h.srt hk he⟩
  · show (s.l.set k m).length ≤ 32
    rw [List.length_set]
    exact h.len
  · rcases set_mem hy with rfl | hy
    · obtain ⟨a, b, _⟩ := h.mem x (List.mem_of_getElem? hk)
      exact ⟨he ▸ a, he ▸ b, h3, h4, hn⟩
    · exact h.mem y hy
theorem Fit.block {C : Nat} {s : Rg} (h : Fit C s) {k : Nat} {m : Mb} (hk : s.l[k]? = some m) : Fit C (blockR s k m) := by
  obtain ⟨f1, f2, f3⟩ := h.floor
  obtain ⟨_, _, a, b, c⟩ := h.mem m (List.mem_of_getElem? hk)
  have := h.set (m := { m with on := false }) hk rfl a b c
  exact ⟨this.cap, this.len, this.mem, f1, f2, f3, this.srt⟩
theorem Fit.wake {C : Nat} {s : Rg} (h : Fit C s) {k : Nat} {m : Mb} (hk : s.l[k]? = some m) : Fit C (wakeR s k m) := by
  obtain ⟨f1, f2, f3⟩ := h.floor
  obtain ⟨_, _, a, b, c⟩ := h.mem m (List.mem_of_getElem? hk)
  exact h.set (m := { m with n := clampN (floorN s) m.w m.n, on := true }) hk rfl a b (clamp_le f1 f3 c)
theorem Fit.weigh {C : Nat} {s : Rg} (h : Fit C s) {k w : Nat} {m : Mb} (hk : s.l[k]? = some m) (h3 : 1 ≤ w) (h4 : w ≤ 1000) : Fit C (weighR s k m w) := by
  obtain ⟨f1, f2, f3⟩ := h.floor
  obtain ⟨_, _, a, b, c⟩ := h.mem m (List.mem_of_getElem? hk)
  have hu : upN (m.n, m.w) w ≤ C * w := up_le (f := (m.n, m.w)) a c
  refine h.set (m := weighM s m w) hk rfl h3 h4 ?_
  show (if m.on = true then _ else _) ≤ C * w
  split
  · exact clamp_le f1 f3 hu
  · exact hu
theorem Fit.pick {C : Nat} {s : Rg} (h : Fit C s) {k : Nat} {m : Mb} (hk : s.l[k]? = some m) (hn : m.n + 1 ≤ C * m.w) : Fit C (pick0 s k m) := by
  obtain ⟨_, _, a, b, c⟩ := h.mem m (List.mem_of_getElem? hk)
  exact h.set (m := { m with n := m.n + 1 }) hk rfl a b hn
theorem Fit.pick1 {C : Nat} {s : Rg} (h : Fit C s) {k : Nat} {m : Mb} (hk : s.l[k]? = some m) : Fit (C + 1) (pick0 s k m) := by
  obtain ⟨_, _, a, b, c⟩ := h.mem m (List.mem_of_getElem? hk)
  exact (h.more (Nat.le_succ C)).pick hk (by show m.n + 1 ≤ (C + 1) * m.w; rw [Nat.add_mul, Nat.one_mul]; omega)
end Go.Proofs.YtpfpojehcjmfnaaGreat.Rn

/-
  A ring that rebases is, but for whole numbers, one that never does; what both tell; nobody is far above the floor.
  Conditions: none.
-/
set_option linter.unusedVariables false
namespace Go.Proofs.YtpfpojehcjmfnaaGreat.Rn

theorem mul3 (a b c : Nat) : a * b * c = a * c * b := by rw [Nat.mul_assoc, Nat.mul_comm b c, ← Nat.mul_assoc]

theorem Fit.rebased {C : Nat} {s : Rg} (h : Fit (C + 1) s) (hC : 0 < C) (q : Nat) (hm : ∀ m ∈ s.l, m.n - q * m.w ≤ C * m.w) (hnum : s.num ≤ C * s.den) : Fit C { s with l := s.l.map (shift q) } := by
  refine ⟨hC, ?_, fun y hy => ?_, h.den0, h.den1, hnum, ?_⟩
  · show (s.l.map _).length ≤ 32
    rw [List.length_map]
    exact h.len
  · obtain ⟨m, hm', rfl⟩ := List.mem_map.1 hy
    obtain ⟨a, b, c, d, _⟩ := h.mem m hm'
    exact ⟨a, b, c, d, hm m hm'⟩
  · have := h.srt
    unfold Sorted at *
    exact List.pairwise_map.2 this
theorem Fit.pickR {s : Rg} (h : Fit s.lim s) {x : Nat × Mb} (hb : best s.l = some x) : Fit s.lim (pickR s x.1 x.2) := by
  obtain ⟨k, m⟩ := x
  obtain ⟨h1, h2, h3⟩ := best_some h.pos hb
  simp only at h1 h2 h3
  obtain ⟨_, _, a, b, c⟩ := h.mem m (List.mem_of_getElem? h1)
  show Fit s.lim (Go.Proofs.YtpfpojehcjmfnaaGreat.Rn.pickR s k m)
  unfold Go.Proofs.YtpfpojehcjmfnaaGreat.Rn.pickR
  by_cases hl : s.lim ≤ m.n + 1
  · rw [if_pos hl]
    have h' : Fit (s.lim + 1) (pick0 s k m) := h.pick1 h1
    have hkl := (List.getElem?_eq_some_iff.1 h1).1
    have hmem : ({ m with n := m.n + 1 } : Mb) ∈ (pick0 s k m).l := List.mem_iff_getElem?.2 ⟨k, by show (s.l.set k _)[k]? = _; rw [List.getElem?_set_self hkl]⟩
    have hq : m.n / m.w ≤ wholeN (pick0 s k m) := by
      obtain ⟨z, hz⟩ := best_on h'.pos hmem h2
      obtain ⟨z1, z2, z3⟩ := best_some h'.pos hz
      have hzw := h'.pos z.2 (List.mem_of_getElem? z1)
      have hzl : m.n * z.2.w ≤ z.2.n * m.w := by
        rcases set_mem (List.mem_of_getElem? z1) with e | e
        · rw [e]
          exact Nat.mul_le_mul_right _ (Nat.le_succ _)
        · exact h3 z.2 e z2
      unfold wholeN floorN
      rw [hz]
      show m.n / m.w ≤ z.2.n / z.2.w
      rw [Nat.le_div_iff_mul_le hzw]
      have k1 : m.n / m.w * m.w ≤ m.n := Nat.div_mul_le_self _ _
      have k2 := Nat.mul_le_mul_right z.2.w k1
      rw [mul3] at k2
      exact Nat.le_of_mul_le_mul_right (Nat.le_trans k2 hzl) a
    refine h'.rebased h.cap _ (fun y hy => ?_) h.num
    rcases set_mem hy with rfl | hy
    · show m.n + 1 - wholeN (pick0 s k m) * m.w ≤ s.lim * m.w
      have k1 : m.n / m.w * m.w ≤ wholeN (pick0 s k m) * m.w := Nat.mul_le_mul_right _ hq
      have k2 := Nat.div_add_mod m.n m.w
      have k3 := Nat.mod_lt m.n a
      rw [Nat.mul_comm m.w] at k2
      have k4 : 1 * m.w ≤ s.lim * m.w := Nat.mul_le_mul_right _ h.cap
      omega
    · obtain ⟨_, _, _, _, e⟩ := h.mem y hy
      exact Nat.le_trans (Nat.sub_le _ _) e
  · rw [if_neg hl]
    exact h.pick h1 (by
      have : (m.n + 1) * 1 ≤ s.lim * m.w := Nat.mul_le_mul (by omega) a
      omega)
theorem Fit.pickA {s : Rg} (h : Fit s.lim s) : Fit s.lim (pickA s).2 ∧ (pickA s).2.lim = s.lim := by
  unfold Go.Proofs.YtpfpojehcjmfnaaGreat.Rn.pickA
  cases hb : best s.l with
  | none => exact ⟨h, rfl⟩
  | some x =>
    refine ⟨h.pickR hb, ?_⟩
    show (Go.Proofs.YtpfpojehcjmfnaaGreat.Rn.pickR s x.1 x.2).lim = s.lim
    unfold Go.Proofs.YtpfpojehcjmfnaaGreat.Rn.pickR
    split <;> rfl
theorem int_range {v : Int} {b : Nat} (h : ¬ (v < 1 ∨ (b : Int) < v)) : 1 ≤ v.toNat ∧ v.toNat ≤ b ∧ (v.toNat : Int) = v := by omega
theorem Fit.call {C : Nat} {s : Rg} (h : Fit C s) (kind id w : Int) : Fit C (callA s kind id w).2 ∧ (callA s kind id w).2.lim = s.lim := by
  unfold callA
  split
  · unfold joinA
    split
    · exact ⟨h, rfl⟩
    · rename_i h1
      split
      · exact ⟨h, rfl⟩
      · rename_i h2
        cases hf : findK s.l id with
        | some k => exact ⟨h, rfl⟩
        | none =>
          simp only
          split
          · exact ⟨h, rfl⟩
          · obtain ⟨a, b, c⟩ := int_range (b := 200) h1
            obtain ⟨a', b', c'⟩ := int_range (b := 1000) h2
            exact ⟨h.join a b a' b' (fun x hx e => findK_none hf x hx (by rw [e]; exact c)) (by omega), rfl⟩
  · split
    · unfold leaveA
      cases hf : findK s.l id with
      | none => exact ⟨h, rfl⟩
      | some k => exact ⟨h.leave k, rfl⟩
    · split
      · unfold blockA
        cases hf : findK s.l id with
        | none => exact ⟨h, rfl⟩
        | some k =>
          obtain ⟨m, hm, _⟩ := findK_some hf
          simp only [memK_at hm]
          split
          · exact ⟨h.block hm, rfl⟩
          · exact ⟨h, rfl⟩
      · split
        · unfold wakeA
          cases hf : findK s.l id with
          | none => exact ⟨h, rfl⟩
          | some k =>
            obtain ⟨m, hm, _⟩ := findK_some hf
            simp only [memK_at hm]
            split
            · exact ⟨h, rfl⟩
            · exact ⟨h.wake hm, rfl⟩
        · split
          · unfold weighA
            cases hf : findK s.l id with
            | none => exact ⟨h, rfl⟩
            | some k =>
              obtain ⟨m, hm, _⟩ := findK_some hf
              simp only [memK_at hm]
              split
              · exact ⟨h, rfl⟩
              · rename_i h2
                obtain ⟨a', b', c'⟩ := int_range (b := 1000) h2
                exact ⟨h.weigh hm a' b', rfl⟩
          · exact ⟨h, rfl⟩

end Go.Proofs.YtpfpojehcjmfnaaGreat.Rn

/-
  Members in memory: a row of them of the ring's own; a ring in a block; what a call leaves alone.
  Conditions: none.
-/
set_option linter.unusedVariables false
namespace Go.Proofs.YtpfpojehcjmfnaaGreat.Rn
open Go.RowKit

theorem Tryz.infoMb : (Tryz.prog.info? 124).map (fun i => (i.zero, i.size, i.bytes)) = some (some (.agg #[.int .i64 0, .int .i64 0, .bool false, .int .u64 0]), 4, 32) := by kernel_rfl
def mbCells (m : Mb) : List Value := [.int .i64 m.id, .int .i64 m.w, .bool m.on, .int .u64 m.n]
def mbA (m : Mb) : Value := .agg #[.int .i64 m.id, .int .i64 m.w, .bool m.on, .int .u64 m.n]
def rowC (l : List Mb) : List Value := l.flatMap mbCells
theorem rowC_cons (m : Mb) (l : List Mb) : rowC (m :: l) = .int .i64 m.id :: .int .i64 m.w :: .bool m.on :: .int .u64 m.n :: rowC l := by simp [rowC, mbCells]
theorem rowC_append (l k : List Mb) : rowC (l ++ k) = rowC l ++ rowC k := by simp [rowC]
theorem rowC_length : ∀ (l : List Mb), (rowC l).length = l.length * 4
  | [] => rfl
  | m :: l => by rw [rowC_cons]; simp [rowC_length l]; omega
theorem rowC_get : ∀ (l : List Mb) (j : Nat) (m : Mb), l[j]? = some m → (rowC l)[j * 4]? = some (.int .i64 m.id) ∧ (rowC l)[j * 4 + 1]? = some (.int .i64 m.w) ∧ (rowC l)[j * 4 + 2]? = some (.bool m.on) ∧ (rowC l)[j * 4 + 3]? = some (.int .u64 m.n)
  | [], j, m, h => by simp at h
  | x :: l, 0, m, h => by
    simp at h
    subst h
    exact ⟨rfl, rfl, rfl, rfl⟩
  | x :: l, j + 1, m, h => by
    have ih := rowC_get l j m (by simpa using h)
    rw [rowC_cons, show (j + 1) * 4 = j * 4 + 1 + 1 + 1 + 1 by omega]
    simpa using ih
theorem rowC_one (l : List Mb) : ∀ u ∈ rowC l, u.oneCell' = true := by
  intro u hu
  obtain ⟨m, _, hm⟩ := List.mem_flatMap.1 hu
  simp [mbCells] at hm
  rcases hm with rfl | rfl | rfl | rfl <;> rfl
theorem rowC_take : ∀ (l : List Mb) (i : Nat), (rowC l).take (i * 4) = rowC (l.take i)
  | [], i => by simp [rowC]
  | m :: l, 0 => by simp [rowC]
  | m :: l, i + 1 => by
    rw [rowC_cons, show (i + 1) * 4 = i * 4 + 1 + 1 + 1 + 1 by omega, List.take_succ_cons, List.take_succ_cons, List.take_succ_cons, List.take_succ_cons, rowC_take l i, List.take_succ_cons, rowC_cons]
theorem rowC_drop : ∀ (l : List Mb) (i : Nat), (rowC l).drop (i * 4) = rowC (l.drop i)
  | [], i => by simp [rowC]
  | m :: l, 0 => by simp [rowC]
  | m :: l, i + 1 => by
    rw [rowC_cons, show (i + 1) * 4 = i * 4 + 1 + 1 + 1 + 1 by omega, List.drop_succ_cons, List.drop_succ_cons, List.drop_succ_cons, List.drop_succ_cons, rowC_drop l i, List.drop_succ_cons]
theorem rowC_set : ∀ (l : List Mb) (j : Nat) (m x : Mb), l[j]? = some m → ((((rowC l).set (j * 4) (.int .i64 x.id)).set (j * 4 + 1) (.int .i64 x.w)).set (j * 4 + 2) (.bool x.on)).set (j * 4 + 3) (.int .u64 x.n) = rowC (l.set j x)
  | [], j, m, x, h => by simp at h
  | y :: l, 0, m, x, h => by
    rw [List.set_cons_zero, rowC_cons, rowC_cons]
    rfl
  | y :: l, j + 1, m, x, h => by
    rw [rowC_cons, List.set_cons_succ, rowC_cons, ← rowC_set l j m x (by simpa using h), show (j + 1) * 4 = j * 4 + 1 + 1 + 1 + 1 by omega]
    rfl
theorem set_self {α : Type} {l : List α} {k : Nat} {x : α} (h : l[k]? = some x) : l.set k x = l := by
  apply List.ext_getElem?
  intro i
  rw [List.getElem?_set]
  split
  · rename_i e
    subst e
    rw [if_pos (List.getElem?_eq_some_iff.1 h).1, h]
  · rfl
theorem rowC_setN (l : List Mb) (j : Nat) (m : Mb) (h : l[j]? = some m) (x : Nat) : (rowC l).set (j * 4 + 3) (.int .u64 x) = rowC (l.set j { m with n := x }) := by
  obtain ⟨c0, c1, c2, c3⟩ := rowC_get l j m h
  rw [← rowC_set l j m _ h, set_self c0, set_self c1, set_self c2]

/-- A member lies at an address. -/
def MbAt (W : World) (b o : Nat) (m : Mb) : Prop :=
  W.cell? ⟨b, o, none⟩ = some (.int .i64 m.id) ∧ W.cell? ⟨b, o + 1, none⟩ = some (.int .i64 m.w) ∧ W.cell? ⟨b, o + 2, none⟩ = some (.bool m.on) ∧ W.cell? ⟨b, o + 3, none⟩ = some (.int .u64 m.n)
/-- A row of members of the ring's own. -/
abbrev RowM (W : World) (v : Value) (l : List Mb) : Prop := W.ownsRow 0 124 4 v l.length (rowC l)
theorem own_form {w : World} {base e size n : Nat} {v : Value} {xs : List Value} (h : w.ownsRow base e size v n xs) : ∃ A c, v = .slice A n c := by
  rcases h.2 with ⟨rfl, h0⟩ | ⟨g, cap, cur, rfl, _⟩
  · exact ⟨none, 0, by rw [h0]⟩
  · exact ⟨_, _, rfl⟩
theorem own_lies {W : World} {base e : Nat} {v : Value} {l : List Mb} (h : W.ownsRow base e 4 v l.length (rowC l)) (hp : 0 < l.length) :
    ∃ g cap, v = .slice (some ⟨g, 0, none⟩) l.length cap ∧ base ≤ g ∧ g < W.heap.size ∧ l.length ≤ cap ∧ cap ≤ maxLen ∧ (∀ j m, l[j]? = some m → MbAt W g (j * 4) m) ∧ ∀ j, W.frozen? ⟨g, j, none⟩ = false := by
  obtain ⟨h1, h2⟩ := h
  rcases h2 with ⟨rfl, h0⟩ | ⟨g, cap, cur, rfl, hg, hh, hn, hc, hs, ht⟩
  · omega
  · refine ⟨g, cap, rfl, hg, heap_lt hh, hn, hc, fun j m hj => ?_, fun j => by simp [World.frozen?, hh]⟩
    have hjl : j < l.length := (List.getElem?_eq_some_iff.1 hj).1
    obtain ⟨g0, g1, g2, g3⟩ := rowC_get l j m hj
    have key : ∀ (i : Nat) (u : Value), i < l.length * 4 → (rowC l)[i]? = some u → W.cell? ⟨g, i, none⟩ = some u := by
      intro i u hi hu
      rw [cell_of_row W g i _ _ (0, 0) hh, ← hu, ← ht, List.getElem?_take, if_pos hi]
      simp
    exact ⟨key _ _ (by omega) g0, key _ _ (by omega) g1, key _ _ (by omega) g2, key _ _ (by omega) g3⟩
/-- A cell of a row of a call's own is stored into. -/
theorem own_set {W : World} {base e sz n g cap k : Nat} {xs : List Value} (h : W.ownsRow base e sz (.slice (some ⟨g, 0, none⟩) n cap) n xs) (u : Value) :
    (W.setCell ⟨g, k, none⟩ u).ownsRow base e sz (.slice (some ⟨g, 0, none⟩) n cap) n (xs.set k u) := by
  obtain ⟨h1, h2⟩ := h
  refine ⟨by rw [List.length_set]; exact h1, ?_⟩
  rcases h2 with ⟨h0, _⟩ | ⟨g', cap', cur, hv, hg, hh, hn, hc, hs, ht⟩
  · cases h0
  · injection hv with e1 e2 e3
    injection e1 with e1
    injection e1 with e1
    subst e1 e3
    refine .inr ⟨g, cap, cur.setIfInBounds k u, rfl, hg, heap_setCell_mem _ _ _ _ _ _ _ hh, hn, hc, by simpa using hs, ?_⟩
    rw [← ht, Array.toList_setIfInBounds, List.take_set]
theorem MbAt.keep {W W' : World} {b o : Nat} {m : Mb} (h : MbAt W b o m) (hk : W'.heap[b]? = W.heap[b]?) : MbAt W' b o m :=
  have e := fun o => cell_same (W := W) (W' := W') hk o
  ⟨(e _).trans h.1, (e _).trans h.2.1, (e _).trans h.2.2.1, (e _).trans h.2.2.2⟩

/-- A ring in memory. -/
structure RingAt (W : World) (rb : Nat) (mv : Value) (s : Rg) : Prop where
  head : W.heap[rb]? = some (.cells #[.int .u64 s.lim, mv, .int .u64 s.num, .int .u64 s.den] 115 (0, 0))
  row : RowM W mv s.l
  ne : mv.ownBlock ≠ some rb
/-- Its blocks. -/
def Foot (rb : Nat) (mv : Value) : Nat → Prop := fun k => k = rb ∨ mv.ownBlock = some k
theorem RingAt.lt {W : World} {rb : Nat} {mv : Value} {s : Rg} (h : RingAt W rb mv s) : rb < W.heap.size := heap_lt h.head
theorem RingAt.foot {W : World} {rb : Nat} {mv : Value} {s : Rg} (h : RingAt W rb mv s) {k : Nat} (hk : Foot rb mv k) : k < W.heap.size := by
  rcases hk with rfl | hk
  · exact h.lt
  · exact own_lt h.row hk
theorem RingAt.keep {W W' : World} {rb : Nat} {mv : Value} {s : Rg} (h : RingAt W rb mv s) (hk : ∀ k, Foot rb mv k → W'.heap[k]? = W.heap[k]?) : RingAt W' rb mv s :=
  ⟨(hk rb (.inl rfl)).trans h.head, own_keep h.row fun k e => hk k (.inr e), h.ne⟩
theorem RingAt.below {W W' : World} {rb : Nat} {mv : Value} {s : Rg} (h : RingAt W rb mv s) (hb : Below W.heap.size W W') : RingAt W' rb mv s := h.keep fun k hk => hb.block k (h.foot hk)
theorem RingAt.drewN {W : World} {rb : Nat} {mv : Value} {s : Rg} (h : RingAt W rb mv s) (n : Nat) : RingAt (W.drewN n) rb mv s := h.keep fun _ _ => rfl
theorem RingAt.form {W : World} {rb : Nat} {mv : Value} {s : Rg} (h : RingAt W rb mv s) : ∃ A c, mv = .slice A s.l.length c := own_form h.row
/-- What the walk wants of the head. -/
theorem RingAt.heads {W : World} {rb : Nat} {mv : Value} {s : Rg} (h : RingAt W rb mv s) :
    W.cell? ⟨rb, 0, none⟩ = some (.int .u64 s.lim) ∧ W.cell? ⟨rb, 1, none⟩ = some mv ∧ W.cell? ⟨rb, 2, none⟩ = some (.int .u64 s.num) ∧ W.cell? ⟨rb, 3, none⟩ = some (.int .u64 s.den) ∧
    W.frozen? ⟨rb, 0, none⟩ = false ∧ W.frozen? ⟨rb, 1, none⟩ = false ∧ W.frozen? ⟨rb, 2, none⟩ = false ∧ W.frozen? ⟨rb, 3, none⟩ = false := by
  have e := h.head
  refine ⟨?_, ?_, ?_, ?_, ?_, ?_, ?_, ?_⟩ <;> simp [World.cell?, World.frozen?, e]
/-- A member of it: where it lies. -/
theorem RingAt.at_ {W : World} {rb : Nat} {mv : Value} {s : Rg} (h : RingAt W rb mv s) {k : Nat} {m : Mb} (hk : s.l[k]? = some m) :
    ∃ g cap, mv = .slice (some ⟨g, 0, none⟩) s.l.length cap ∧ g < W.heap.size ∧ g ≠ rb ∧ s.l.length ≤ cap ∧ cap ≤ maxLen ∧ MbAt W g (k * 4) m ∧ ∀ j, W.frozen? ⟨g, j, none⟩ = false := by
  have hn := h.ne
  obtain ⟨g, cap, rfl, _, h2, h3, h4, h5, h6⟩ := own_lies h.row (by have := (List.getElem?_eq_some_iff.1 hk).1; omega)
  exact ⟨g, cap, rfl, h2, fun e => hn (by rw [e]; rfl), h3, h4, h5 k m hk, h6⟩
/-- The row is written anew: another list of as many members. -/
theorem RingAt.cell {W : World} {rb g n cap : Nat} {s : Rg} (h : RingAt W rb (.slice (some ⟨g, 0, none⟩) n cap) s) (k : Nat) (u : Value) {l : List Mb} (hl : l.length = s.l.length) (hu : (rowC s.l).set k u = rowC l) :
    RingAt (W.setCell ⟨g, k, none⟩ u) rb (.slice (some ⟨g, 0, none⟩) n cap) { s with l := l } := by
  obtain ⟨A, c, hv⟩ := h.form
  injection hv with _ hn _
  subst hn
  refine ⟨(Below.heap_setCell _ _ _ _ (fun e => h.ne (by rw [e]; rfl))).trans h.head, ?_, h.ne⟩
  have := own_set (k := k) h.row u
  rw [hu] at this
  show World.ownsRow _ _ _ _ _ l.length (rowC l)
  rw [hl]
  exact this
theorem RingAt.setN {W : World} {rb g n cap k : Nat} {s : Rg} (h : RingAt W rb (.slice (some ⟨g, 0, none⟩) n cap) s) {m : Mb} (hk : s.l[k]? = some m) (x : Nat) :
    RingAt (W.setCell ⟨g, k * 4 + 3, none⟩ (.int .u64 x)) rb (.slice (some ⟨g, 0, none⟩) n cap) { s with l := s.l.set k { m with n := x } } := h.cell _ _ (by rw [List.length_set]) (rowC_setN s.l k m hk x)

theorem Grew.refl (w : World) (mv : Value) : Grew w mv mv := fun k hk => .inl hk
/-- What a call of a ring answers, and what it makes of the ring. -/
def MutPost (W : World) (rb : Nat) (mv : Value) (v : Value) (s' : Rg) (e : Ending) (w' : World) : Prop :=
  ∃ mv', e = .returned v ∧ RingAt w' rb mv' s' ∧ Apart (Foot rb mv) W w' ∧ Grew W mv mv'
theorem mut_below {W w' : World} {rb : Nat} {mv v : Value} {s : Rg} (h : RingAt W rb mv s) (hb : Below W.heap.size W w') {e : Ending} (he : e = .returned v) : MutPost W rb mv v s e w' :=
  ⟨mv, he, h.below hb, Apart.of_below hb, Grew.refl _ _⟩
end Go.Proofs.YtpfpojehcjmfnaaGreat.Rn

/-
  slices.IndexFunc over members; where a member of an id stands; who is behind an id.
  Conditions: the predicate, whatever the world, answers so, and leaves all that was.
-/
set_option linter.unusedVariables false
namespace Go.Proofs.YtpfpojehcjmfnaaGreat.Rn
open Go.RowKit

/-- A predicate that may make memory. -/
def PredM (g : Nat) (lb : Array Value) (p : Mb → Bool) (w : World) : Prop :=
  ∀ (W : World) (x : Mb), Below w.heap.size w W → Calls Tryz.prog g (#[mbA x] ++ lb) W (RetB (.bool (p x)) W)
def idxO (o : Option Nat) : Int := match o with | none => -1 | some k => (k : Int)
theorem idx_none {p : Mb → Bool} {l : List Mb} (h : ∀ (j : Nat) (t : Mb), j < l.length → l[j]? = some t → p t = false) : l.findIdx? p = none := by
  rw [List.findIdx?_eq_none_iff]
  intro x hx
  obtain ⟨j, hj, e⟩ := List.getElem_of_mem hx
  exact h j x hj (by rw [List.getElem?_eq_getElem hj, e])
theorem idx_some {p : Mb → Bool} {l : List Mb} {k : Nat} {x : Mb} (hk : l[k]? = some x) (hx : p x = true) (h : ∀ (j : Nat) (t : Mb), j < k → l[j]? = some t → p t = false) : l.findIdx? p = some k := by
  obtain ⟨hlt, e⟩ := List.getElem?_eq_some_iff.1 hk
  rw [List.findIdx?_eq_some_iff_getElem]
  refine ⟨hlt, by rw [e]; exact hx, fun j hj => ?_⟩
  rw [h j l[j] hj (List.getElem?_eq_getElem (by omega))]
  decide

set_option maxRecDepth 100000 in
set_option maxHeartbeats 2000000 in
theorem index_any (g : Nat) (lb : Array Value) (eg : ∀ args w, (callFunc g args).run Tryz.prog w = .ok (.enter g args) w) (p : Mb → Bool) (v : Value) (l : List Mb) (w : World) (hp : PredM g lb p w) (h : RowM w v l) (hl : l.length ≤ 1000) :
    Calls Tryz.prog 113 #[v, .func (.func g) #[] lb] w (RetB (.int .i64 (idxO (l.findIdx? p))) w) := by
  obtain ⟨A, c, rfl⟩ := own_form h
  have HO := Lib.hid h
  have HP := Lib.hid hp
  generalize hn : l.length = n at *
  have HN := Lib.hid hn
  clear h hp hn
  go_enter Tryz.func113, Tryz.ntmps113
  go_wp2
  go_loopg [5, 8] n (fun gg _ s8 wr => ∃ kk : Nat, kk ≤ n ∧ gg = n - kk ∧ s8 = .int .i64 kk ∧ Below w.heap.size w wr ∧ ∀ (j : Nat) (t : Mb), j < kk → l[j]? = some t → p t = false)
  case atStart => exact ⟨0, Nat.zero_le _, by omega, rfl, Below.refl _ w, fun j t hj => absurd hj (Nat.not_lt_zero _)⟩
  case round =>
    obtain ⟨k, hk, hg, rfl, hbw, hall⟩ := hrel
    have HB := Lib.hid hbw
    have HALL := Lib.hid hall
    have HG := Lib.hid hg
    clear hbw hall hg
    by_cases hlt : k < n
    · have hltz : (k : Int) < (n : Int) := by omega
      obtain ⟨b, cap, hA, _, hbl, _, _, hcell, _⟩ := own_lies HO.out (by rw [HN.out]; omega)
      have e1 : A = some ⟨b, 0, none⟩ := by injection hA
      clear hA
      subst e1
      obtain ⟨y, hy⟩ := ex_at (xs := l) (k := k) (by rw [HN.out]; exact hlt)
      obtain ⟨hc1', hc2', hc3', hc4'⟩ := (hcell k y hy).keep (HB.out.block b hbl)
      have hcall := HP.out wr y HB.out
      have HY := Lib.hid hy
      clear hcell hy
      unfold mbA at hcall
      cases hq : p y with
      | true =>
        rw [hq] at hcall
        have HC := Lib.hid hcall
        have HQ := Lib.hid hq
        clear hcall hq
        obtain ⟨y1, y2, y3, y4⟩ := y
        simp only at hc1' hc2' hc3' hc4'
        go_wp2_with (go_at_fn g; refine HC.out.mono ?_; rintro e w' ⟨rfl, hb'⟩)
        go_ret
        refine ⟨?_, HB.out.trans (hb'.mono HB.out.size)⟩
        rw [idx_some HY.out HQ.out HALL.out]
        rfl
      | false =>
        rw [hq] at hcall
        have HC := Lib.hid hcall
        have HQ := Lib.hid hq
        clear hcall hq
        obtain ⟨y1, y2, y3, y4⟩ := y
        simp only at hc1' hc2' hc3' hc4'
        go_wp2_with (go_at_fn g; refine HC.out.mono ?_; rintro e w' ⟨rfl, hb'⟩)
        go_roundg (n - (k + 1))
        case measure => have := HG.out; omega
        case rel =>
          refine ⟨k + 1, by omega, rfl, by go_num, HB.out.trans (hb'.mono HB.out.size), fun j t hj ht => ?_⟩
          by_cases e : j = k
          · subst e
            have := HY.out
            rw [this] at ht
            rw [← Option.some.inj ht]
            exact HQ.out
          · exact HALL.out j t (by omega) ht
    · have hltz : ¬ (k : Int) < (n : Int) := by omega
      go_wp2
      go_ret
      refine ⟨?_, HB.out⟩
      rw [idx_none (fun j t hj ht => HALL.out j t (by have := HN.out; omega) ht)]
      rfl

/-- The predicate of find: is it the id that the box holds? -/
theorem isId_pred (w : World) (c : Nat) (id : Int) (hc : w.cell? ⟨c, 0, none⟩ = some (.int .i64 id)) : PredM 114 #[.pointer (some ⟨c, 0, none⟩)] (fun m => (m.id : Int) == id) w := by
  intro W x hb
  have hlt : c < w.heap.size := block_lt_of_cell hc
  have hc' := (hb.cell (p := ⟨c, 0, none⟩) hlt).trans hc
  have hlt2 : c < W.heap.size := Nat.lt_of_lt_of_le hlt hb.size
  clear hlt
  clear hb hc
  obtain ⟨x1, x2, x3, x4⟩ := x
  show Calls Tryz.prog 114 #[.agg #[.int .i64 x1, .int .i64 x2, .bool x4, .int .u64 x3], .pointer (some ⟨c, 0, none⟩)] W (RetB (.bool ((x1 : Int) == id)) W)
  go_enter Tryz.func114, Tryz.ntmps114
  go_wp2
  go_ret
  exact ⟨rfl, (Below.refl _ W).alloc (Nat.le_refl _) _⟩
/-- The predicate of insert: is it behind the id of the member in the box? -/
theorem isBig_pred (w : World) (c : Nat) (m : Mb) (hc : w.cell? ⟨c, 0, none⟩ = some (.int .i64 m.id)) : PredM 118 #[.pointer (some ⟨c, 0, none⟩)] (fun x => decide (m.id < x.id)) w := by
  intro W x hb
  have hlt : c < w.heap.size := block_lt_of_cell hc
  have hc' := (hb.cell (p := ⟨c, 0, none⟩) hlt).trans hc
  have hlt2 : c < W.heap.size := Nat.lt_of_lt_of_le hlt hb.size
  clear hlt
  clear hb hc
  obtain ⟨x1, x2, x3, x4⟩ := x
  obtain ⟨m1, m2, m3, m4⟩ := m
  simp only at hc'
  show Calls Tryz.prog 118 #[.agg #[.int .i64 x1, .int .i64 x2, .bool x4, .int .u64 x3], .pointer (some ⟨c, 0, none⟩)] W (RetB (.bool (decide (m1 < x1))) W)
  go_enter Tryz.func118, Tryz.ntmps118
  go_wp2
  go_ret
  exact ⟨by simp, (Below.refl _ W).alloc (Nat.le_refl _) _⟩

theorem isMade_any (W : World) (rb : Nat) (mv : Value) (s : Rg) (h : RingAt W rb mv s) (hl : 0 < s.lim) : Calls Tryz.prog 67 #[.pointer (some ⟨rb, 0, none⟩)] W (Ret (.bool true) W) := by
  obtain ⟨c0, _⟩ := h.heads
  have hz : (0 : Int) < (s.lim : Int) := by omega
  generalize s.lim = lim at *
  clear h
  go_enter Tryz.func67, Tryz.ntmps67
  go_wp2
  go_ret
  exact ⟨rfl, rfl⟩
theorem isWeight_any (w : Int) (W : World) : Calls Tryz.prog 68 #[.int .i64 w] W (Ret (.bool (decide (1 ≤ w ∧ w ≤ 1000))) W) := by
  by_cases h1 : 1 ≤ w
  · by_cases h2 : w ≤ 1000
    · rw [decide_eq_true (And.intro h1 h2)]
      go_enter Tryz.func68, Tryz.ntmps68
      go_wp2
      go_ret
      exact ⟨rfl, rfl⟩
    · rw [decide_eq_false (fun h => h2 h.2)]
      go_enter Tryz.func68, Tryz.ntmps68
      go_wp2
      go_ret
      exact ⟨rfl, rfl⟩
  · rw [decide_eq_false (fun h => h1 h.1)]
    go_enter Tryz.func68, Tryz.ntmps68
    go_wp2
    go_ret
    exact ⟨rfl, rfl⟩

set_option maxRecDepth 100000 in
theorem find_any (W : World) (rb : Nat) (mv : Value) (s : Rg) (id : Int) (h : RingAt W rb mv s) (hl : s.l.length ≤ 1000) :
    Calls Tryz.prog 69 #[.pointer (some ⟨rb, 0, none⟩), .int .i64 id] W (RetB (.int .i64 (idxO (findK s.l id))) W) := by
  obtain ⟨_, c1, _⟩ := h.heads
  have hb1 := (Below.refl W.heap.size W).alloc (Nat.le_refl _) (.cells #[.int .i64 id] 3)
  have HB1 := Lib.hid hb1
  have hcell : (W.alloc (.cells #[.int .i64 id] 3)).cell? ⟨W.heap.size, 0, none⟩ = some (.int .i64 id) := World.cell?_alloc_new (w := W) _ _ 0
  have HI := Lib.hid (index_any 114 #[.pointer (some ⟨W.heap.size, 0, none⟩)] (by intro args w; rfl) (fun m => (m.id : Int) == id) mv s.l _ (isId_pred _ _ id hcell) (h.below hb1).row hl)
  have hlt := h.lt
  clear hb1 hcell h
  go_enter Tryz.func69, Tryz.ntmps69
  go_wp2_with (go_at_call 113; refine HI.out.mono ?_; rintro e w' ⟨rfl, hb⟩)
  go_ret
  exact ⟨rfl, HB1.out.trans (hb.mono HB1.out.size)⟩
end Go.Proofs.YtpfpojehcjmfnaaGreat.Rn
