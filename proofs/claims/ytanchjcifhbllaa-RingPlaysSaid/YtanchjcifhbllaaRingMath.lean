/-
  Rings in numbers: who has the least pass, the floor, what each call makes of a ring.
  Conditions: none.
-/
set_option linter.unusedVariables false
namespace Go.Proofs.Ytanchjcifhbllaa

/-- A member: its id, weight and count, and whether it is on. -/
structure Mb where
  id : Nat
  w : Nat
  n : Nat
  on : Bool
/-- A ring: its limit, the floor that it keeps, and its members. -/
structure Rg where
  lim : Nat
  num : Nat
  den : Nat
  l : List Mb
def mb0 : Mb := ⟨0, 0, 0, false⟩

/-! ### The least pass -/
def lessM (a b : Mb) : Bool := decide (a.n * b.w < b.n * a.w)
def takes (m : Mb) (b : Option (Nat × Mb)) : Bool := m.on && (match b with | none => true | some x => lessM m x.2)
def bestGo : List Mb → Nat → Option (Nat × Mb) → Option (Nat × Mb)
  | [], _, b => b
  | m :: r, i, b => bestGo r (i + 1) (if takes m b = true then some (i, m) else b)
def best (l : List Mb) : Option (Nat × Mb) := bestGo l 0 none
def idxI (b : Option (Nat × Mb)) : Int := match b with | none => -1 | some x => (x.1 : Int)
theorem pass_trans {a b c d e f : Nat} (hd : 0 < d) (h1 : a * d ≤ c * b) (h2 : c * f ≤ e * d) : a * f ≤ e * b := by
  have k1 : a * d * f ≤ c * b * f := Nat.mul_le_mul_right f h1
  have k2 : c * f * b ≤ e * d * b := Nat.mul_le_mul_right b h2
  have e1 : a * d * f = a * f * d := by rw [Nat.mul_assoc, Nat.mul_comm d f, ← Nat.mul_assoc]
  have e2 : c * b * f = c * f * b := by rw [Nat.mul_assoc, Nat.mul_comm b f, ← Nat.mul_assoc]
  have e3 : e * d * b = e * b * d := by rw [Nat.mul_assoc, Nat.mul_comm d b, ← Nat.mul_assoc]
  rw [e1, e2] at k1
  rw [e3] at k2
  exact Nat.le_of_mul_le_mul_right (Nat.le_trans k1 k2) hd
theorem bestGo_spec : ∀ (l : List Mb) (i : Nat) (b : Option (Nat × Mb)), (∀ m ∈ l, 0 < m.w) → (∀ y, b = some y → 0 < y.2.w) →
    (bestGo l i b = none → b = none ∧ ∀ m ∈ l, m.on = false) ∧
    (∀ x, bestGo l i b = some x → (b = some x ∨ ∃ j, x.1 = i + j ∧ l[j]? = some x.2 ∧ x.2.on = true) ∧ 0 < x.2.w ∧ (∀ m ∈ l, m.on = true → x.2.n * m.w ≤ m.n * x.2.w) ∧ (∀ y, b = some y → x.2.n * y.2.w ≤ y.2.n * x.2.w))
  | [], i, b, hl, hb => by
    refine ⟨fun h => ⟨h, fun m hm => (by cases hm)⟩, fun x h => ⟨.inl h, hb x h, fun m hm => (by cases hm), fun y hy => ?_⟩⟩
    unfold bestGo at h
    rw [h] at hy
    injection hy with hy
    subst hy
    exact Nat.le_refl _
  | m :: r, i, b, hl, hb => by
    have hm : 0 < m.w := hl m (List.mem_cons_self ..)
    have hr : ∀ x ∈ r, 0 < x.w := fun x hx => hl x (List.mem_cons_of_mem _ hx)
    unfold bestGo
    by_cases ht : takes m b = true
    · rw [if_pos ht]
      have ih := bestGo_spec r (i + 1) (some (i, m)) hr (fun y hy => by injection hy with hy; subst hy; exact hm)
      refine ⟨fun h => ?_, fun x h => ?_⟩
      · exact absurd (ih.1 h).1 (by simp)
      · obtain ⟨k1, k2, k3, k4⟩ := ih.2 x h
        have k5 := k4 (i, m) rfl
        have hon : m.on = true := by unfold takes at ht; rw [Bool.and_eq_true] at ht; exact ht.1
        refine ⟨.inr ?_, k2, fun y hy hyo => ?_, fun y hy => ?_⟩
        · rcases k1 with k1 | ⟨j, j1, j2, j3⟩
          · injection k1 with k1
            subst k1
            exact ⟨0, rfl, rfl, hon⟩
          · exact ⟨j + 1, by omega, by simpa using j2, j3⟩
        · rcases List.mem_cons.1 hy with rfl | hy
          · exact k5
          · exact k3 y hy hyo
        · subst hy
          have : m.n * y.2.w < y.2.n * m.w := by
            unfold takes lessM at ht
            rw [Bool.and_eq_true] at ht
            simpa using ht.2
          exact pass_trans hm k5 (Nat.le_of_lt this)
    · rw [if_neg ht]
      have ih := bestGo_spec r (i + 1) b hr hb
      refine ⟨fun h => ?_, fun x h => ?_⟩
      · obtain ⟨h1, h2⟩ := ih.1 h
        subst h1
        refine ⟨rfl, fun y hy => ?_⟩
        rcases List.mem_cons.1 hy with rfl | hy
        · unfold takes at ht
          simpa using ht
        · exact h2 y hy
      · obtain ⟨k1, k2, k3, k4⟩ := ih.2 x h
        refine ⟨?_, k2, fun y hy hyo => ?_, k4⟩
        · rcases k1 with k1 | ⟨j, j1, j2, j3⟩
          · exact .inl k1
          · exact .inr ⟨j + 1, by omega, by simpa using j2, j3⟩
        · rcases List.mem_cons.1 hy with rfl | hy
          · have hs : ∃ z, b = some z ∧ ¬ y.n * z.2.w < z.2.n * y.w := by
              unfold takes lessM at ht
              rw [hyo] at ht
              cases b with
              | none => simp at ht
              | some z => exact ⟨z, rfl, by simpa using ht⟩
            obtain ⟨z, rfl, hz⟩ := hs
            exact pass_trans (hb z rfl) (k4 z rfl) (by omega)
          · exact k3 y hy hyo
theorem best_none {l : List Mb} (hl : ∀ m ∈ l, 0 < m.w) (h : best l = none) : ∀ m ∈ l, m.on = false := ((bestGo_spec l 0 none hl (fun y hy => by cases hy)).1 h).2
theorem best_some {l : List Mb} (hl : ∀ m ∈ l, 0 < m.w) {x : Nat × Mb} (h : best l = some x) : l[x.1]? = some x.2 ∧ x.2.on = true ∧ ∀ m ∈ l, m.on = true → x.2.n * m.w ≤ m.n * x.2.w := by
  obtain ⟨k1, _, k3, _⟩ := (bestGo_spec l 0 none hl (fun y hy => by cases hy)).2 x h
  rcases k1 with k1 | ⟨j, j1, j2, j3⟩
  · cases k1
  · rw [show x.1 = j by omega]
    exact ⟨j2, j3, k3⟩
theorem best_on {l : List Mb} (hl : ∀ m ∈ l, 0 < m.w) {m : Mb} (hm : m ∈ l) (ho : m.on = true) : ∃ x, best l = some x := by
  cases h : best l with
  | none => have := best_none hl h m hm; rw [ho] at this; cases this
  | some x => exact ⟨x, rfl⟩

/-! ### The floor, and what a count is brought to -/
def floorN (s : Rg) : Nat × Nat := match best s.l with | none => (s.num, s.den) | some x => (x.2.n, x.2.w)
def upN (f : Nat × Nat) (w : Nat) : Nat := (f.1 * w + f.2 - 1) / f.2
def downN (f : Nat × Nat) (w : Nat) : Nat := f.1 * w / f.2
def clampN (f : Nat × Nat) (w n : Nat) : Nat := min (max n (upN f w)) (downN f w + 1)
theorem downN_spec {f : Nat × Nat} (w : Nat) (hd : 0 < f.2) : downN f w * f.2 ≤ f.1 * w ∧ f.1 * w < downN f w * f.2 + f.2 := by
  unfold downN
  have h := Nat.div_add_mod (f.1 * w) f.2
  have hm := Nat.mod_lt (f.1 * w) hd
  rw [Nat.mul_comm f.2] at h
  omega
theorem upN_spec {f : Nat × Nat} (w : Nat) (hd : 0 < f.2) : f.1 * w ≤ upN f w * f.2 ∧ upN f w * f.2 < f.1 * w + f.2 := by
  unfold upN
  have h := Nat.div_add_mod (f.1 * w + f.2 - 1) f.2
  have hm := Nat.mod_lt (f.1 * w + f.2 - 1) hd
  rw [Nat.mul_comm f.2] at h
  omega
theorem mul_lt_of {a b d : Nat} (h : a * d < b * d) : a < b := Nat.lt_of_mul_lt_mul_right h
theorem down_one {a b d x : Nat} (h1 : a * d ≤ x) (h2 : x < a * d + d) (k1 : b * d ≤ x) (k2 : x < b * d + d) : a = b := by
  have e1 : a < b + 1 := mul_lt_of (d := d) (by rw [Nat.add_mul, Nat.one_mul]; omega)
  have e2 : b < a + 1 := mul_lt_of (d := d) (by rw [Nat.add_mul, Nat.one_mul]; omega)
  omega
theorem up_one {a b d x : Nat} (h1 : x ≤ a * d) (h2 : a * d < x + d) (k1 : x ≤ b * d) (k2 : b * d < x + d) : a = b := by
  have e1 : a < b + 1 := mul_lt_of (d := d) (by rw [Nat.add_mul, Nat.one_mul]; omega)
  have e2 : b < a + 1 := mul_lt_of (d := d) (by rw [Nat.add_mul, Nat.one_mul]; omega)
  omega
theorem up_down {f : Nat × Nat} (w : Nat) (hd : 0 < f.2) : downN f w ≤ upN f w ∧ upN f w ≤ downN f w + 1 := by
  obtain ⟨a1, a2⟩ := downN_spec w hd
  obtain ⟨b1, b2⟩ := upN_spec w hd
  refine ⟨?_, ?_⟩
  · have : downN f w < upN f w + 1 := mul_lt_of (d := f.2) (by rw [Nat.add_mul, Nat.one_mul]; omega)
    omega
  · have : upN f w < downN f w + 1 + 1 := mul_lt_of (d := f.2) (by rw [Nat.add_mul, Nat.add_mul, Nat.one_mul]; omega)
    omega
theorem up_le {f : Nat × Nat} {w C : Nat} (hd : 0 < f.2) (h : f.1 ≤ C * f.2) : upN f w ≤ C * w := by
  obtain ⟨b1, b2⟩ := upN_spec w hd
  have k : f.1 * w ≤ C * w * f.2 := by
    have := Nat.mul_le_mul_right w h
    rwa [Nat.mul_assoc, Nat.mul_comm f.2 w, ← Nat.mul_assoc] at this
  have : upN f w < C * w + 1 := mul_lt_of (d := f.2) (by rw [Nat.add_mul, Nat.one_mul]; omega)
  omega
theorem down_le {f : Nat × Nat} {w C : Nat} (hd : 0 < f.2) (h : f.1 ≤ C * f.2) : downN f w ≤ C * w := Nat.le_trans (up_down w hd).1 (up_le hd h)
theorem clamp_le {f : Nat × Nat} {w C n : Nat} (hd : 0 < f.2) (h : f.1 ≤ C * f.2) (hn : n ≤ C * w) : clampN f w n ≤ C * w := by
  have := up_le (w := w) hd h
  unfold clampN
  omega
theorem clamp_in {f : Nat × Nat} (w n : Nat) (hd : 0 < f.2) : upN f w ≤ clampN f w n ∧ clampN f w n ≤ downN f w + 1 := by
  have := up_down w hd
  unfold clampN
  omega

/-! ### Lists of members -/
def setAt (l : List Mb) (k : Nat) (m : Mb) : List Mb := l.set k m
def cutAt (l : List Mb) (k : Nat) : List Mb := l.take k ++ l.drop (k + 1)
def bigI (l : List Mb) (id : Nat) : Nat := (l.findIdx? fun x => decide (id < x.id)).getD l.length
def insM (l : List Mb) (m : Mb) : List Mb := l.take (bigI l m.id) ++ [m] ++ l.drop (bigI l m.id)
def findK (l : List Mb) (id : Int) : Option Nat := l.findIdx? fun m => (m.id : Int) == id
/-- The document's way to lay a member in. -/
def withL (l : List Mb) (m : Mb) : List Mb := (l.filter fun x => decide (x.id < m.id)) ++ [m] ++ l.filter fun x => decide (m.id < x.id)
def Sorted (l : List Mb) : Prop := l.Pairwise fun a b => a.id < b.id

theorem withL_ins : ∀ (l : List Mb) (m : Mb), Sorted l → (∀ x ∈ l, x.id ≠ m.id) → withL l m = insM l m
  | [], m, _, _ => rfl
  | x :: r, m, hs, hn => by
    have hs' := List.pairwise_cons.1 hs
    have hx : x.id ≠ m.id := hn x (List.mem_cons_self ..)
    by_cases h : x.id < m.id
    · have ih := withL_ins r m hs'.2 (fun y hy => hn y (List.mem_cons_of_mem _ hy))
      have h2 : ¬ m.id < x.id := by omega
      unfold withL insM bigI at *
      rw [List.filter_cons, if_pos (by simpa using h), List.filter_cons, if_neg (by simpa using h2), List.findIdx?_cons, if_neg (by simpa using h2)]
      rw [List.cons_append, List.cons_append, ih]
      cases hf : r.findIdx? fun x => decide (m.id < x.id) with
      | none => simp
      | some k => simp
    · have h2 : m.id < x.id := by omega
      have hall : ∀ y ∈ r, m.id < y.id := fun y hy => Nat.lt_trans h2 (hs'.1 y hy)
      unfold withL insM bigI
      rw [List.filter_cons, if_neg (by simpa using h), List.filter_cons, if_pos (by simpa using h2), List.findIdx?_cons, if_pos (by simpa using h2)]
      rw [List.filter_eq_nil_iff.2 (fun y hy => by have := hall y hy; simp; omega), List.filter_eq_self.2 (fun y hy => by simpa using hall y hy)]
      simp
theorem withL_set : ∀ (l : List Mb) (k : Nat) (x m : Mb), Sorted l → l[k]? = some x → x.id = m.id → withL l m = l.set k m
  | [], k, x, m, _, hk, _ => by simp at hk
  | y :: r, 0, x, m, hs, hk, he => by
    have hs' := List.pairwise_cons.1 hs
    have hy : y = x := by simpa using hk
    subst hy
    have hall : ∀ z ∈ r, m.id < z.id := fun z hz => by rw [← he]; exact hs'.1 z hz
    unfold withL
    rw [List.filter_cons, if_neg (by simp; omega), List.filter_cons, if_neg (by simp; omega)]
    rw [List.filter_eq_nil_iff.2 (fun z hz => by have := hall z hz; simp; omega), List.filter_eq_self.2 (fun z hz => by simpa using hall z hz)]
    simp
  | y :: r, k + 1, x, m, hs, hk, he => by
    have hs' := List.pairwise_cons.1 hs
    have hk' : r[k]? = some x := by simpa using hk
    have hlt : y.id < m.id := by rw [← he]; exact hs'.1 x (List.mem_of_getElem? hk')
    have ih := withL_set r k x m hs'.2 hk' he
    unfold withL at *
    rw [List.filter_cons, if_pos (by simpa using hlt), List.filter_cons, if_neg (by simp; omega), List.set_cons_succ, ← ih]
    simp
theorem filter_cut : ∀ (l : List Mb) (k : Nat) (x : Mb), Sorted l → l[k]? = some x → (l.filter fun y => decide (y.id ≠ x.id)) = cutAt l k
  | [], k, x, _, hk => by simp at hk
  | y :: r, 0, x, hs, hk => by
    have hs' := List.pairwise_cons.1 hs
    have hy : y = x := by simpa using hk
    subst hy
    unfold cutAt
    rw [List.filter_cons, if_neg (by simp), List.filter_eq_self.2 (fun z hz => by have := hs'.1 z hz; simp; omega)]
    simp
  | y :: r, k + 1, x, hs, hk => by
    have hs' := List.pairwise_cons.1 hs
    have hk' : r[k]? = some x := by simpa using hk
    have hlt : y.id < x.id := hs'.1 x (List.mem_of_getElem? hk')
    have ih := filter_cut r k x hs'.2 hk'
    unfold cutAt at *
    rw [List.filter_cons, if_pos (by simp; omega), ih]
    simp
theorem findK_some {l : List Mb} {id : Int} {k : Nat} (h : findK l id = some k) : ∃ m, l[k]? = some m ∧ (m.id : Int) = id := by
  unfold findK at h
  rw [List.findIdx?_eq_some_iff_getElem] at h
  obtain ⟨hk, h1, _⟩ := h
  exact ⟨l[k], List.getElem?_eq_getElem hk, by simpa using h1⟩
theorem findK_none {l : List Mb} {id : Int} (h : findK l id = none) : ∀ m ∈ l, (m.id : Int) ≠ id := by
  unfold findK at h
  rw [List.findIdx?_eq_none_iff] at h
  exact fun m hm => by simpa using h m hm
theorem sorted_id : ∀ {l : List Mb}, Sorted l → ∀ {i j : Nat} {a b : Mb}, l[i]? = some a → l[j]? = some b → a.id = b.id → i = j
  | [], _, i, j, a, b, hi, _, _ => by simp at hi
  | x :: r, hs, 0, 0, a, b, hi, hj, he => rfl
  | x :: r, hs, 0, j + 1, a, b, hi, hj, he => by
    have hs' := List.pairwise_cons.1 hs
    have hj' : r[j]? = some b := by simpa using hj
    have ha : x = a := by simpa using hi
    subst ha
    have := hs'.1 b (List.mem_of_getElem? hj')
    omega
  | x :: r, hs, i + 1, 0, a, b, hi, hj, he => by
    have hs' := List.pairwise_cons.1 hs
    have hi' : r[i]? = some a := by simpa using hi
    have hb : x = b := by simpa using hj
    subst hb
    have := hs'.1 a (List.mem_of_getElem? hi')
    omega
  | x :: r, hs, i + 1, j + 1, a, b, hi, hj, he => by
    have hs' := List.pairwise_cons.1 hs
    rw [sorted_id hs'.2 (i := i) (j := j) (by simpa using hi) (by simpa using hj) he]
theorem findK_at {l : List Mb} (hs : Sorted l) {k : Nat} {m : Mb} (h : l[k]? = some m) : findK l (m.id : Int) = some k := by
  cases hf : findK l (m.id : Int) with
  | none => exact absurd rfl (findK_none hf m (List.mem_of_getElem? h))
  | some j =>
    obtain ⟨x, hx, he⟩ := findK_some hf
    rw [sorted_id hs hx h (by omega)]

/-! ### The calls -/
def joinR (s : Rg) (id w : Nat) : Rg := { s with l := insM s.l ⟨id, w, upN (floorN s) w, true⟩ }
def leaveR (s : Rg) (k : Nat) : Rg := { s with num := (floorN s).1, den := (floorN s).2, l := cutAt s.l k }
def blockR (s : Rg) (k : Nat) (m : Mb) : Rg := { s with num := (floorN s).1, den := (floorN s).2, l := s.l.set k { m with on := false } }
def wakeR (s : Rg) (k : Nat) (m : Mb) : Rg := { s with l := s.l.set k { m with n := clampN (floorN s) m.w m.n, on := true } }
def weighM (s : Rg) (m : Mb) (w : Nat) : Mb := { m with w := w, n := if m.on = true then clampN (floorN s) w (upN (m.n, m.w) w) else upN (m.n, m.w) w }
def weighR (s : Rg) (k : Nat) (m : Mb) (w : Nat) : Rg := { s with l := s.l.set k (weighM s m w) }
def pick0 (s : Rg) (k : Nat) (m : Mb) : Rg := { s with l := s.l.set k { m with n := m.n + 1 } }
def wholeN (s : Rg) : Nat := (floorN s).1 / (floorN s).2
def shift (q : Nat) (m : Mb) : Mb := { m with n := m.n - q * m.w }
def rebaseR (s : Rg) : Rg := { s with l := s.l.map (shift (wholeN s)) }
def pickR (s : Rg) (k : Nat) (m : Mb) : Rg := if s.lim ≤ m.n + 1 then rebaseR (pick0 s k m) else pick0 s k m

def joinA (s : Rg) (id w : Int) : Int × Rg :=
  if id < 1 ∨ 200 < id then (20, s) else if w < 1 ∨ 1000 < w then (22, s) else
    match findK s.l id with
    | some _ => (11, s)
    | none => if 32 ≤ s.l.length then (13, s) else (0, joinR s id.toNat w.toNat)
def leaveA (s : Rg) (id : Int) : Int × Rg := match findK s.l id with | none => (10, s) | some k => (0, leaveR s k)
def memK (s : Rg) (k : Nat) : Mb := (s.l[k]?).getD mb0
def blockA (s : Rg) (id : Int) : Int × Rg := match findK s.l id with | none => (10, s) | some k => if (memK s k).on = true then (0, blockR s k (memK s k)) else (15, s)
def wakeA (s : Rg) (id : Int) : Int × Rg := match findK s.l id with | none => (10, s) | some k => if (memK s k).on = true then (15, s) else (0, wakeR s k (memK s k))
def weighA (s : Rg) (id w : Int) : Int × Rg := match findK s.l id with | none => (10, s) | some k => if w < 1 ∨ 1000 < w then (22, s) else (0, weighR s k (memK s k) w.toNat)
def pickA (s : Rg) : Int × Rg := match best s.l with | none => (0, s) | some x => ((x.2.id : Int), pickR s x.1 x.2)
/-- A pick that never rebases. -/
def plainA (s : Rg) : Int × Rg := match best s.l with | none => (0, s) | some x => ((x.2.id : Int), pick0 s x.1 x.2)
/-- One of the five calls. -/
def callA (s : Rg) (kind id w : Int) : Int × Rg :=
  if kind = 0 then joinA s id w else if kind = 1 then leaveA s id else if kind = 2 then blockA s id else if kind = 3 then wakeA s id else if kind = 4 then weighA s id w else (0, s)
theorem memK_at {s : Rg} {k : Nat} {m : Mb} (h : s.l[k]? = some m) : memK s k = m := by unfold memK; rw [h]; rfl

/-! ### What fits into words -/
structure Fit (C : Nat) (s : Rg) : Prop where
  cap : 0 < C
  len : s.l.length ≤ 32
  mem : ∀ m ∈ s.l, 1 ≤ m.id ∧ m.id ≤ 200 ∧ 1 ≤ m.w ∧ m.w ≤ 1000 ∧ m.n ≤ C * m.w
  den0 : 0 < s.den
  den1 : s.den ≤ 1000
  num : s.num ≤ C * s.den
  srt : Sorted s.l
theorem Fit.pos {C : Nat} {s : Rg} (h : Fit C s) : ∀ m ∈ s.l, 0 < m.w := fun m hm => (h.mem m hm).2.2.1
theorem Fit.floor {C : Nat} {s : Rg} (h : Fit C s) : 0 < (floorN s).2 ∧ (floorN s).2 ≤ 1000 ∧ (floorN s).1 ≤ C * (floorN s).2 := by
  unfold floorN
  cases hb : best s.l with
  | none => exact ⟨h.den0, h.den1, h.num⟩
  | some x =>
    obtain ⟨h1, _, _⟩ := best_some h.pos hb
    obtain ⟨_, _, m1, m2, m3⟩ := h.mem x.2 (List.mem_of_getElem? h1)
    exact ⟨m1, m2, m3⟩
theorem Fit.more {C : Nat} {s : Rg} (h : Fit C s) {D : Nat} (hd : C ≤ D) : Fit D s where
  cap := Nat.lt_of_lt_of_le h.cap hd
  len := h.len
  mem := fun m hm => by
    obtain ⟨a, b, c, d, e⟩ := h.mem m hm
    exact ⟨a, b, c, d, Nat.le_trans e (Nat.mul_le_mul_right _ hd)⟩
  den0 := h.den0
  den1 := h.den1
  num := Nat.le_trans h.num (Nat.mul_le_mul_right _ hd)
  srt := h.srt
theorem sorted_set {l : List Mb} (hs : Sorted l) {k : Nat} {x m : Mb} (hk : l[k]? = some x) (he : x.id = m.id) : Sorted (l.set k m) := by
  unfold Sorted at *
  rw [List.pairwise_iff_getElem] at *
  intro i j hi hj hij
  rw [List.length_set] at hi hj
  rw [List.getElem_set, List.getElem_set]
  have hkl := (List.getElem?_eq_some_iff.1 hk).1
  have hkx := (List.getElem?_eq_some_iff.1 hk).2
  have := hs i j hi hj hij
  by_cases e1 : k = i
  · subst e1
    rw [if_pos rfl, if_neg (by omega), ← he, ← hkx]
    exact this
  · rw [if_neg e1]
    by_cases e2 : k = j
    · subst e2
      rw [if_pos rfl, ← he, ← hkx]
      exact this
    · rw [if_neg e2]
      exact this
theorem sorted_sub {l l' : List Mb} (h : l'.Sublist l) (hs : Sorted l) : Sorted l' := List.Pairwise.sublist h hs
theorem cut_sub (l : List Mb) (k : Nat) : (cutAt l k).Sublist l := by
  unfold cutAt
  rw [← List.eraseIdx_eq_take_drop_succ]
  exact List.eraseIdx_sublist l k
theorem cut_mem {l : List Mb} {k : Nat} {m : Mb} (h : m ∈ cutAt l k) : m ∈ l := (cut_sub l k).subset h
theorem sorted_withL {l : List Mb} {m : Mb} (hs : Sorted l) : Sorted (withL l m) := by
  unfold withL Sorted at *
  rw [List.pairwise_append, List.pairwise_append]
  refine ⟨⟨List.Pairwise.sublist List.filter_sublist hs, by simp, fun a ha b hb => ?_⟩, List.Pairwise.sublist List.filter_sublist hs, fun a ha b hb => ?_⟩
  · rw [List.mem_singleton] at hb
    subst hb
    simpa using (List.mem_filter.1 ha).2
  · have h2 : m.id < b.id := by simpa using (List.mem_filter.1 hb).2
    rcases List.mem_append.1 ha with ha | ha
    · have h1 : a.id < m.id := by simpa using (List.mem_filter.1 ha).2
      omega
    · rw [List.mem_singleton] at ha
      subst ha
      exact h2
theorem ins_mem {l : List Mb} {m x : Mb} (h : x ∈ insM l m) : x = m ∨ x ∈ l := by
  unfold insM at h
  rcases List.mem_append.1 h with h | h
  · rcases List.mem_append.1 h with h | h
    · exact .inr (List.mem_of_mem_take h)
    · exact .inl (by simpa using h)
  · exact .inr (List.mem_of_mem_drop h)
theorem mem_ins {l : List Mb} {m x : Mb} (h : x ∈ l) : x ∈ insM l m := by
  unfold insM
  rw [← List.take_append_drop (bigI l m.id) l] at h
  rcases List.mem_append.1 h with h | h
  · exact List.mem_append.2 (.inl (List.mem_append.2 (.inl h)))
  · exact List.mem_append.2 (.inr h)
theorem ins_length (l : List Mb) (m : Mb) : (insM l m).length = l.length + 1 := by
  unfold insM
  have := List.take_append_drop (bigI l m.id) l
  have h2 := congrArg List.length this
  rw [List.length_append] at h2
  rw [List.length_append, List.length_append]
  simp only [List.length_cons, List.length_nil]
  omega
theorem set_mem {l : List Mb} {k : Nat} {m x : Mb} (h : x ∈ l.set k m) : x = m ∨ x ∈ l := (List.mem_or_eq_of_mem_set h).symm

theorem Fit.join {C : Nat} {s : Rg} (h : Fit C s) {id w : Nat} (h1 : 1 ≤ id) (h2 : id ≤ 200) (h3 : 1 ≤ w) (h4 : w ≤ 1000) (hn : ∀ x ∈ s.l, x.id ≠ id) (hl : s.l.length < 32) : Fit C (joinR s id w) := by
  obtain ⟨f1, f2, f3⟩ := h.floor
  refine ⟨h.cap, ?_, fun m hm => ?_, h.den0, h.den1, h.num, ?_⟩
  · show (insM s.l _).length ≤ 32
    rw [ins_length]
    omega
  · rcases ins_mem hm with rfl | hm
    · exact ⟨h1, h2, h3, h4, up_le f1 f3⟩
    · exact h.mem m hm
  · show Sorted (insM s.l _)
    rw [← withL_ins _ _ h.srt (fun x hx => hn x hx)]
    exact sorted_withL h.srt
theorem Fit.leave {C : Nat} {s : Rg} (h : Fit C s) (k : Nat) : Fit C (leaveR s k) := by
  obtain ⟨f1, f2, f3⟩ := h.floor
  exact ⟨h.cap, Nat.le_trans (cut_sub s.l k).length_le h.len, fun m hm => h.mem m (cut_mem hm), f1, f2, f3, sorted_sub (cut_sub s.l k) h.srt⟩
theorem Fit.set {C : Nat} {s : Rg} (h : Fit C s) {k : Nat} {x m : Mb} (hk : s.l[k]? = some x) (he : x.id = m.id) (h3 : 1 ≤ m.w) (h4 : m.w ≤ 1000) (hn : m.n ≤ C * m.w) : Fit C { s with l := s.l.set k m } := by
  refine ⟨h.cap, ?_, fun y hy => ?_, h.den0, h.den1, h.num, sorted_set h.srt hk he⟩
  · show (s.l.set k m).length ≤ 32
    rw [List.length_set]
    exact h.len
  · rcases set_mem hy with rfl | hy
    · obtain ⟨a, b, _⟩ := h.mem x (List.mem_of_getElem? hk)
      exact ⟨he ▸ a, he ▸ b, h3, h4, hn⟩
    · exact h.mem y hy
theorem Fit.block {C : Nat} {s : Rg} (h : Fit C s) {k : Nat} {m : Mb} (hk : s.l[k]? = some m) : Fit C (blockR s k m) := by
  obtain ⟨f1, f2, f3⟩ := h.floor
  obtain ⟨_, _, a, b, c⟩ := h.mem m (List.mem_of_getElem? hk)
  have := h.set (m := { m with on := false }) hk rfl a b c
  exact ⟨this.cap, this.len, this.mem, f1, f2, f3, this.srt⟩
theorem Fit.wake {C : Nat} {s : Rg} (h : Fit C s) {k : Nat} {m : Mb} (hk : s.l[k]? = some m) : Fit C (wakeR s k m) := by
  obtain ⟨f1, f2, f3⟩ := h.floor
  obtain ⟨_, _, a, b, c⟩ := h.mem m (List.mem_of_getElem? hk)
  exact h.set (m := { m with n := clampN (floorN s) m.w m.n, on := true }) hk rfl a b (clamp_le f1 f3 c)
theorem Fit.weigh {C : Nat} {s : Rg} (h : Fit C s) {k w : Nat} {m : Mb} (hk : s.l[k]? = some m) (h3 : 1 ≤ w) (h4 : w ≤ 1000) : Fit C (weighR s k m w) := by
  obtain ⟨f1, f2, f3⟩ := h.floor
  obtain ⟨_, _, a, b, c⟩ := h.mem m (List.mem_of_getElem? hk)
  have hu : upN (m.n, m.w) w ≤ C * w := up_le (f := (m.n, m.w)) a c
  refine h.set (m := weighM s m w) hk rfl h3 h4 ?_
  show (if m.on = true then _ else _) ≤ C * w
  split
  · exact clamp_le f1 f3 hu
  · exact hu
theorem Fit.pick {C : Nat} {s : Rg} (h : Fit C s) {k : Nat} {m : Mb} (hk : s.l[k]? = some m) (hn : m.n + 1 ≤ C * m.w) : Fit C (pick0 s k m) := by
  obtain ⟨_, _, a, b, c⟩ := h.mem m (List.mem_of_getElem? hk)
  exact h.set (m := { m with n := m.n + 1 }) hk rfl a b hn
theorem Fit.pick1 {C : Nat} {s : Rg} (h : Fit C s) {k : Nat} {m : Mb} (hk : s.l[k]? = some m) : Fit (C + 1) (pick0 s k m) := by
  obtain ⟨_, _, a, b, c⟩ := h.mem m (List.mem_of_getElem? hk)
  exact (h.more (Nat.le_succ C)).pick hk (by show m.n + 1 ≤ (C + 1) * m.w; rw [Nat.add_mul, Nat.one_mul]; omega)
end Go.Proofs.Ytanchjcifhbllaa
