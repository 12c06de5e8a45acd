/-
  Locals as lists: who is next, a pick, a frame's begin, a unit dropped; guarantee, exactness, proportion.
  Conditions: none.
-/
import Derived.Test.YtngfcgegondmgaaOrderMath
set_option linter.unusedVariables false
namespace Go.Proofs.Ytngfcgegondmgaa

/-- A member: its unit, its share, what it got. -/
structure Lm where
  u : Nat
  s : Nat
  g : Nat

/-- Is it ahead of the one found so far? -/
def takesL (m : Lm) : Option (Nat × Lm) → Bool
  | none => true
  | some b => decide ((m.g + 1) * b.2.s < (b.2.g + 1) * m.s)
def stepN (off : Nat → Bool) (k : Nat) (m : Lm) (b : Option (Nat × Lm)) : Option (Nat × Lm) := if off m.u = true then b else if takesL m b = true then some (k, m) else b
def nextGo (off : Nat → Bool) : Nat → Option (Nat × Lm) → List Lm → Option (Nat × Lm)
  | _, b, [] => b
  | k, b, m :: l => nextGo off (k + 1) (stepN off k m b) l
def nextT (off : Nat → Bool) (l : List Lm) : Option (Nat × Lm) := nextGo off 0 none l
def more (x : Lm) : Lm := { x with g := x.g + 1 }
def pickO (l : List Lm) : Option (Nat × Lm) → List Lm
  | none => l
  | some b => l.set b.1 (more b.2)
def pickT (off : Nat → Bool) (l : List Lm) : List Lm := pickO l (nextT off l)
def unitO : Option (Nat × Lm) → Nat
  | none => 0
  | some b => b.2.u
def beginT (l : List Lm) : List Lm := l.map fun m => { m with g := 0 }
def dropT (u : Int) (l : List Lm) : List Lm := l.filter fun m => !decide ((m.u : Int) = u)
def wantsT (l : List Lm) : List Sp := l.map fun m => ((m.u : Int), (m.s : Int))
def sumG : List Lm → Nat
  | [] => 0
  | m :: l => m.g + sumG l
def sumS : List Lm → Nat
  | [] => 0
  | m :: l => m.s + sumS l

theorem drop_ofL {α : Type} {l : List α} {i : Nat} {y : α} (h : l[i]? = some y) : l.drop i = y :: l.drop (i + 1) := by
  obtain ⟨h1, h2⟩ := List.getElem?_eq_some_iff.1 h
  rw [List.drop_eq_getElem_cons h1, h2]
theorem next_step {off : Nat → Bool} {l : List Lm} {k : Nat} {m : Lm} {b R : Option (Nat × Lm)} (h : l[k]? = some m) (hR : nextGo off k b (l.drop k) = R) : nextGo off (k + 1) (stepN off k m b) (l.drop (k + 1)) = R := by
  rw [drop_ofL h] at hR
  exact hR
theorem step_off {off : Nat → Bool} {k : Nat} {m : Lm} {b : Option (Nat × Lm)} (h : off m.u = true) : stepN off k m b = b := by unfold stepN; rw [if_pos h]
theorem step_takes {off : Nat → Bool} {k : Nat} {m : Lm} {b : Option (Nat × Lm)} (h : off m.u = false) (ht : takesL m b = true) : stepN off k m b = some (k, m) := by
  unfold stepN
  rw [if_neg (by rw [h]; decide), if_pos ht]
theorem step_stays {off : Nat → Bool} {k : Nat} {m : Lm} {b : Option (Nat × Lm)} (h : off m.u = false) (ht : takesL m b = false) : stepN off k m b = b := by
  unfold stepN
  rw [if_neg (by rw [h]; decide), if_neg (by rw [ht]; decide)]

/-! ### Who is next -/
/-- None of those that are not off is ahead of it. -/
structure Best (off : Nat → Bool) (l : List Lm) (k : Nat) (x : Lm) : Prop where
  at_ : l[k]? = some x
  on : off x.u = false
  least : ∀ (j : Nat) (m : Lm), l[j]? = some m → off m.u = false → (x.g + 1) * m.s ≤ (m.g + 1) * x.s
def SoFar (off : Nat → Bool) (l : List Lm) (k : Nat) : Option (Nat × Lm) → Prop
  | none => ∀ (j : Nat) (m : Lm), j < k → l[j]? = some m → off m.u = true
  | some b => l[b.1]? = some b.2 ∧ off b.2.u = false ∧ ∀ (j : Nat) (m : Lm), j < k → l[j]? = some m → off m.u = false → (b.2.g + 1) * m.s ≤ (m.g + 1) * b.2.s
theorem frac_le {a b c d e f : Nat} (hd : 0 < d) (h1 : a * d ≤ c * b) (h2 : c * f ≤ e * d) : a * f ≤ e * b := by
  refine Nat.le_of_mul_le_mul_right (c := d) ?_ hd
  have k1 := Nat.mul_le_mul_right f h1
  have k2 := Nat.mul_le_mul_right b h2
  rw [Nat.mul_right_comm a f d, Nat.mul_right_comm e b d]
  rw [Nat.mul_right_comm c f b] at k2
  exact Nat.le_trans k1 k2
theorem so_step {off : Nat → Bool} {l : List Lm} {k : Nat} {m : Lm} {b : Option (Nat × Lm)} (hp : ∀ m ∈ l, 0 < m.s) (h : SoFar off l k b) (hk : l[k]? = some m) : SoFar off l (k + 1) (stepN off k m b) := by
  cases ho : off m.u with
  | true =>
    rw [step_off ho]
    cases b with
    | none =>
      intro j x hj hx
      by_cases e : j = k
      · subst e; rw [hk] at hx; rw [← Option.some.inj hx]; exact ho
      · exact h j x (by omega) hx
    | some b =>
      refine ⟨h.1, h.2.1, fun j x hj hx hxo => ?_⟩
      by_cases e : j = k
      · subst e; rw [hk] at hx; rw [← Option.some.inj hx, ho] at hxo; cases hxo
      · exact h.2.2 j x (by omega) hx hxo
  | false =>
    cases b with
    | none =>
      rw [step_takes ho rfl]
      refine ⟨hk, ho, fun j x hj hx hxo => ?_⟩
      by_cases e : j = k
      · subst e
        rw [hk] at hx
        have hx' : m = x := Option.some.inj hx
        show (m.g + 1) * x.s ≤ (x.g + 1) * m.s
        rw [hx']
        exact Nat.le_refl _
      · have := h j x (by omega) hx
        rw [hxo] at this
        cases this
    | some b =>
      obtain ⟨h1, h2, h3⟩ := h
      cases ht : takesL m (some b) with
      | true =>
        rw [step_takes ho ht]
        have hlt : (m.g + 1) * b.2.s < (b.2.g + 1) * m.s := by simpa [takesL] using ht
        refine ⟨hk, ho, fun j x hj hx hxo => ?_⟩
        by_cases e : j = k
        · subst e
          rw [hk] at hx
          have hx' : m = x := Option.some.inj hx
          show (m.g + 1) * x.s ≤ (x.g + 1) * m.s
          rw [hx']
          exact Nat.le_refl _
        · exact frac_le (hp b.2 (List.mem_of_getElem? h1)) (Nat.le_of_lt hlt) (h3 j x (by omega) hx hxo)
      | false =>
        rw [step_stays ho ht]
        have hge : ¬ (m.g + 1) * b.2.s < (b.2.g + 1) * m.s := by simpa [takesL] using ht
        refine ⟨h1, h2, fun j x hj hx hxo => ?_⟩
        by_cases e : j = k
        · subst e
          rw [hk] at hx
          rw [← Option.some.inj hx]
          exact Nat.not_lt.1 hge
        · exact h3 j x (by omega) hx hxo
theorem so_go {off : Nat → Bool} {l : List Lm} (hp : ∀ m ∈ l, 0 < m.s) : ∀ (n k : Nat) (b : Option (Nat × Lm)), l.length = n + k → SoFar off l k b → SoFar off l l.length (nextGo off k b (l.drop k))
  | 0, k, b, hn, h => by
    rw [List.drop_of_length_le (by omega), hn, Nat.zero_add]
    exact h
  | n + 1, k, b, hn, h => by
    have hk : l[k]? = some (l[k]'(by omega)) := List.getElem?_eq_getElem (by omega)
    rw [drop_ofL hk]
    exact so_go hp n (k + 1) _ (by omega) (so_step hp h hk)
theorem so_all {off : Nat → Bool} {l : List Lm} (hp : ∀ m ∈ l, 0 < m.s) : SoFar off l l.length (nextT off l) := by
  have := so_go (off := off) hp l.length 0 none (by omega) (fun j m hj => absurd hj (Nat.not_lt_zero _))
  rwa [List.drop_zero] at this
theorem next_none {off : Nat → Bool} {l : List Lm} (hp : ∀ m ∈ l, 0 < m.s) (h : nextT off l = none) : ∀ m ∈ l, off m.u = true := by
  intro m hm
  have ha := so_all (off := off) hp
  rw [h] at ha
  obtain ⟨j, hj, e⟩ := List.getElem_of_mem hm
  exact ha j m hj (by rw [List.getElem?_eq_getElem hj, e])
theorem next_some {off : Nat → Bool} {l : List Lm} (hp : ∀ m ∈ l, 0 < m.s) {k : Nat} {x : Lm} (h : nextT off l = some (k, x)) : Best off l k x := by
  have ha := so_all (off := off) hp
  rw [h] at ha
  exact ⟨ha.1, ha.2.1, fun j m hj => ha.2.2 j m (List.getElem?_eq_some_iff.1 hj).1 hj⟩
theorem next_on {l : List Lm} (hp : ∀ m ∈ l, 0 < m.s) (hl : 0 < l.length) : ∃ k x, nextT (fun _ => false) l = some (k, x) := by
  cases h : nextT (fun _ => false) l with
  | none =>
    have := next_none hp h (l[0]'hl) (List.getElem_mem _)
    cases this
  | some b => exact ⟨b.1, b.2, rfl⟩

/-! ### Sums -/
theorem sumG_append : ∀ a b : List Lm, sumG (a ++ b) = sumG a + sumG b
  | [], b => by simp [sumG]
  | m :: a, b => by show m.g + sumG (a ++ b) = m.g + sumG a + sumG b; rw [sumG_append a b]; omega
theorem sumS_append : ∀ a b : List Lm, sumS (a ++ b) = sumS a + sumS b
  | [], b => by simp [sumS]
  | m :: a, b => by show m.s + sumS (a ++ b) = m.s + sumS a + sumS b; rw [sumS_append a b]; omega
theorem sumG_more : ∀ {l : List Lm} {k : Nat} {x : Lm}, l[k]? = some x → sumG (l.set k (more x)) = sumG l + 1
  | [], k, x, h => by simp at h
  | y :: l, 0, x, h => by
    simp at h
    subst h
    show y.g + 1 + sumG l = y.g + sumG l + 1
    omega
  | y :: l, k + 1, x, h => by
    have := sumG_more (l := l) (k := k) (x := x) (by simpa using h)
    show y.g + sumG (l.set k (more x)) = y.g + sumG l + 1
    omega
theorem sumS_more : ∀ {l : List Lm} {k : Nat} {x : Lm}, l[k]? = some x → sumS (l.set k (more x)) = sumS l
  | [], k, x, h => by simp at h
  | y :: l, 0, x, h => by
    simp at h
    subst h
    rfl
  | y :: l, k + 1, x, h => by
    have := sumS_more (l := l) (k := k) (x := x) (by simpa using h)
    show y.s + sumS (l.set k (more x)) = y.s + sumS l
    omega
theorem sum_le : ∀ {l : List Lm}, (∀ m ∈ l, m.g ≤ m.s) → sumG l ≤ sumS l
  | [], _ => Nat.le_refl _
  | m :: l, h => by
    have h1 := h m List.mem_cons_self
    have h2 := sum_le (l := l) fun x hx => h x (List.mem_cons_of_mem _ hx)
    show m.g + sumG l ≤ m.s + sumS l
    omega
theorem sum_eq : ∀ {l : List Lm}, (∀ m ∈ l, m.g ≤ m.s) → sumS l ≤ sumG l → ∀ m ∈ l, m.g = m.s
  | [], _, _, m, hm => by cases hm
  | x :: l, h, he, m, hm => by
    have h1 := h x List.mem_cons_self
    have h2 := sum_le (l := l) fun y hy => h y (List.mem_cons_of_mem _ hy)
    have he' : x.s + sumS l ≤ x.g + sumG l := he
    rcases List.mem_cons.1 hm with rfl | hm
    · omega
    · exact sum_eq (l := l) (fun y hy => h y (List.mem_cons_of_mem _ hy)) (by omega) m hm
theorem sum_lt : ∀ {l : List Lm}, sumG l < sumS l → ∃ m ∈ l, m.g < m.s
  | [], h => absurd h (Nat.lt_irrefl _)
  | x :: l, h => by
    have h' : x.g + sumG l < x.s + sumS l := h
    by_cases e : x.g < x.s
    · exact ⟨x, List.mem_cons_self, e⟩
    · obtain ⟨m, h1, h2⟩ := sum_lt (l := l) (by omega)
      exact ⟨m, List.mem_cons_of_mem _ h1, h2⟩
theorem s_le : ∀ {l : List Lm} {m : Lm}, m ∈ l → m.s ≤ sumS l
  | x :: l, m, h => by
    show m.s ≤ x.s + sumS l
    rcases List.mem_cons.1 h with rfl | h
    · omega
    · have := s_le h
      omega
theorem len_le : ∀ {l : List Lm}, (∀ m ∈ l, 0 < m.s) → l.length ≤ sumS l
  | [], _ => Nat.le_refl _
  | m :: l, h => by
    have h1 := h m List.mem_cons_self
    have h2 := len_le (l := l) fun y hy => h y (List.mem_cons_of_mem _ hy)
    show l.length + 1 ≤ m.s + sumS l
    omega

/-! ### A list that may be -/
structure OkL (G : Nat) (l : List Lm) : Prop where
  rise : l.Pairwise fun a b => a.u < b.u
  unit : ∀ m ∈ l, 1 ≤ m.u ∧ m.u ≤ 1040
  share : ∀ m ∈ l, 0 < m.s
  full : sumS l ≤ 64
  got : ∀ m ∈ l, m.g ≤ G
theorem OkL.len {G : Nat} {l : List Lm} (h : OkL G l) : l.length ≤ 64 := Nat.le_trans (len_le h.share) h.full
theorem OkL.s64 {G : Nat} {l : List Lm} (h : OkL G l) {m : Lm} (hm : m ∈ l) : m.s ≤ 64 := Nat.le_trans (s_le hm) h.full
theorem OkL.mono {G G' : Nat} {l : List Lm} (h : OkL G l) (hG : G ≤ G') : OkL G' l := ⟨h.rise, h.unit, h.share, h.full, fun m hm => Nat.le_trans (h.got m hm) hG⟩
theorem mem_set {l : List Lm} {k : Nat} {x y m : Lm} (hk : l[k]? = some x) (hm : m ∈ l.set k y) : m ∈ l ∨ m = y := by
  rcases List.mem_or_eq_of_mem_set hm with h | h
  · exact .inl h
  · exact .inr h
theorem rise_set : ∀ {l : List Lm} {k : Nat} {x y : Lm}, l[k]? = some x → y.u = x.u → l.Pairwise (fun a b => a.u < b.u) → (l.set k y).Pairwise (fun a b => a.u < b.u)
  | [], k, x, y, h, _, _ => by simp at h
  | z :: l, 0, x, y, h, e, hp => by
    simp at h
    subst h
    obtain ⟨p1, p2⟩ := List.pairwise_cons.1 hp
    exact List.pairwise_cons.2 ⟨fun b hb => by rw [e]; exact p1 b hb, p2⟩
  | z :: l, k + 1, x, y, h, e, hp => by
    obtain ⟨p1, p2⟩ := List.pairwise_cons.1 hp
    have h' : l[k]? = some x := by simpa using h
    refine List.pairwise_cons.2 ⟨fun b hb => ?_, rise_set h' e p2⟩
    rcases mem_set h' hb with hb | rfl
    · exact p1 b hb
    · rw [e]; exact p1 x (List.mem_of_getElem? h')
theorem OkL.pick {G : Nat} {l : List Lm} (h : OkL G l) (off : Nat → Bool) : OkL (G + 1) (pickT off l) := by
  unfold pickT
  cases hn : nextT off l with
  | none => exact h.mono (Nat.le_succ _)
  | some b =>
    have hb := (next_some h.share hn).at_
    have hm := List.mem_of_getElem? hb
    refine ⟨rise_set hb rfl h.rise, fun m hx => ?_, fun m hx => ?_, ?_, fun m hx => ?_⟩
    · rcases mem_set hb hx with hx | rfl
      · exact h.unit m hx
      · exact h.unit b.2 hm
    · rcases mem_set hb hx with hx | rfl
      · exact h.share m hx
      · exact h.share b.2 hm
    · show sumS (l.set b.1 (more b.2)) ≤ 64
      rw [sumS_more hb]
      exact h.full
    · rcases mem_set hb hx with hx | rfl
      · exact Nat.le_succ_of_le (h.got m hx)
      · exact Nat.succ_le_succ (h.got b.2 hm)
theorem sumS_begin : ∀ l : List Lm, sumS (beginT l) = sumS l
  | [] => rfl
  | m :: l => by show m.s + sumS (beginT l) = m.s + sumS l; rw [sumS_begin l]
theorem sumG_begin : ∀ l : List Lm, sumG (beginT l) = 0
  | [] => rfl
  | m :: l => by show 0 + sumG (beginT l) = 0; rw [sumG_begin l]
theorem begin_g {l : List Lm} {m : Lm} (h : m ∈ beginT l) : m.g = 0 := by
  obtain ⟨x, _, rfl⟩ := List.mem_map.1 h
  rfl
theorem OkL.begin_ {G : Nat} {l : List Lm} (h : OkL G l) : OkL 0 (beginT l) := by
  refine ⟨?_, fun m hm => ?_, fun m hm => ?_, by rw [sumS_begin]; exact h.full, fun m hm => by rw [begin_g hm]; exact Nat.le_refl _⟩
  · exact List.pairwise_map.2 h.rise
  · obtain ⟨x, hx, rfl⟩ := List.mem_map.1 hm
    exact h.unit x hx
  · obtain ⟨x, hx, rfl⟩ := List.mem_map.1 hm
    exact h.share x hx
theorem sumS_filter (p : Lm → Bool) : ∀ l : List Lm, sumS (l.filter p) ≤ sumS l
  | [] => Nat.le_refl _
  | m :: l => by
    have := sumS_filter p l
    show _ ≤ m.s + sumS l
    rw [List.filter_cons]
    split
    · show m.s + sumS (l.filter p) ≤ _
      omega
    · omega
theorem OkL.drop_ {G : Nat} {l : List Lm} (h : OkL G l) (u : Int) : OkL G (dropT u l) :=
  ⟨h.rise.filter _, fun m hm => h.unit m (List.mem_filter.1 hm).1, fun m hm => h.share m (List.mem_filter.1 hm).1, Nat.le_trans (sumS_filter _ l) h.full, fun m hm => h.got m (List.mem_filter.1 hm).1⟩

/-! ### Where a unit stands -/
def findT (u : Int) (l : List Lm) : Option Nat := l.findIdx? fun m => decide ((m.u : Int) = u)
theorem find_none {u : Int} {l : List Lm} (h : findT u l = none) : ∀ m ∈ l, (m.u : Int) ≠ u := by
  intro m hm
  have := List.findIdx?_eq_none_iff.1 h m hm
  simpa using this
theorem find_some {u : Int} {l : List Lm} {k : Nat} (h : findT u l = some k) : ∃ m, l[k]? = some m ∧ (m.u : Int) = u := by
  obtain ⟨h1, h2, _⟩ := List.findIdx?_eq_some_iff_getElem.1 h
  exact ⟨_, List.getElem?_eq_getElem h1, by simpa using h2⟩
theorem rise_ne {l : List Lm} (h : l.Pairwise fun a b => a.u < b.u) {i j : Nat} {x y : Lm} (hi : l[i]? = some x) (hj : l[j]? = some y) (e : x.u = y.u) : i = j := by
  obtain ⟨i1, i2⟩ := List.getElem?_eq_some_iff.1 hi
  obtain ⟨j1, j2⟩ := List.getElem?_eq_some_iff.1 hj
  have hp := List.pairwise_iff_getElem.1 h
  rcases Nat.lt_trichotomy i j with hij | hij | hij
  · have := hp i j i1 j1 hij
    rw [i2, j2] at this
    omega
  · exact hij
  · have := hp j i j1 i1 hij
    rw [i2, j2] at this
    omega
theorem find_at {l : List Lm} (h : l.Pairwise fun a b => a.u < b.u) {i : Nat} {x : Lm} (hi : l[i]? = some x) : findT (x.u : Int) l = some i := by
  obtain ⟨i1, i2⟩ := List.getElem?_eq_some_iff.1 hi
  refine List.findIdx?_eq_some_iff_getElem.2 ⟨i1, by rw [i2]; simp, fun j hj => ?_⟩
  have hj1 : j < l.length := by omega
  have := List.pairwise_iff_getElem.1 h j i hj1 i1 hj
  rw [i2] at this
  simp
  omega
theorem drop_none {u : Int} {l : List Lm} (h : findT u l = none) : dropT u l = l := by
  refine List.filter_eq_self.2 fun m hm => ?_
  have := find_none h m hm
  simpa using this
theorem drop_some : ∀ {u : Int} {l : List Lm} {k : Nat}, (l.Pairwise fun a b => a.u < b.u) → findT u l = some k → dropT u l = l.eraseIdx k
  | u, [], k, _, h => by simp [findT] at h
  | u, m :: l, k, hp, h => by
    obtain ⟨p1, p2⟩ := List.pairwise_cons.1 hp
    unfold findT at h
    rw [List.findIdx?_cons] at h
    unfold dropT
    rw [List.filter_cons]
    by_cases e : (m.u : Int) = u
    · rw [if_pos (by simpa using e)] at h
      injection h with h
      subst h
      rw [if_neg (by simpa using e)]
      show dropT u l = l
      refine drop_none (List.findIdx?_eq_none_iff.2 fun x hx => ?_)
      have := p1 x hx
      simp
      omega
    · rw [if_neg (by simpa using e)] at h
      rw [if_pos (by simpa using e)]
      cases hf : findT u l with
      | none =>
        unfold findT at hf
        rw [hf] at h
        cases h
      | some j =>
        have ih := drop_some p2 hf
        unfold findT at hf
        rw [hf] at h
        injection h with h
        subst h
        show m :: dropT u l = _
        rw [ih]
        rfl

/-! ### Guarantee -/
theorem set_get {l : List Lm} {k j : Nat} {x y : Lm} (hk : l[k]? = some x) (h : (l.set k (more x))[j]? = some y) : (j = k ∧ y = more x) ∨ (j ≠ k ∧ l[j]? = some y) := by
  rw [List.getElem?_set] at h
  by_cases e : k = j
  · rw [if_pos e, if_pos (List.getElem?_eq_some_iff.1 hk).1] at h
    exact .inl ⟨e.symm, (Option.some.inj h).symm⟩
  · rw [if_neg e] at h
    exact .inr ⟨fun h => e h.symm, h⟩
def Prom (ever : Nat → Bool) (t : Nat) (l : List Lm) : Prop :=
  ∀ m ∈ l, ever m.u = false → m.s ≤ m.g ∨ (sumG l = t ∧ ∀ x ∈ l, x.g ≤ x.s)
theorem prom_begin (ever : Nat → Bool) (l : List Lm) : Prom ever 0 (beginT l) := fun m _ _ => .inr ⟨sumG_begin l, fun x hx => by rw [begin_g hx]; exact Nat.zero_le _⟩
theorem prom_pick {ever ever' off : Nat → Bool} {t : Nat} {l : List Lm} (hp : ∀ m ∈ l, 0 < m.s) (h : Prom ever t l) (h1 : ∀ u, ever u = true → ever' u = true) (h2 : ∀ u, off u = true → ever' u = true) : Prom ever' (t + 1) (pickT off l) := by
  have e1 : ∀ u, ever' u = false → ever u = false := fun u hu => by
    cases hh : ever u with
    | false => rfl
    | true => rw [h1 u hh] at hu; cases hu
  have e2 : ∀ u, ever' u = false → off u = false := fun u hu => by
    cases hh : off u with
    | false => rfl
    | true => rw [h2 u hh] at hu; cases hu
  unfold pickT
  cases hn : nextT off l with
  | none =>
    intro m hm hu
    have := next_none hp hn m hm
    rw [e2 _ hu] at this
    cases this
  | some b =>
    obtain ⟨k, x⟩ := b
    have hb := next_some hp hn
    intro m hm hu
    show m.s ≤ m.g ∨ (sumG (l.set k (more x)) = t + 1 ∧ ∀ y ∈ l.set k (more x), y.g ≤ y.s)
    obtain ⟨j, hj, e⟩ := List.getElem_of_mem hm
    have hjm : (l.set k (more x))[j]? = some m := by
      show (pickO l (some (k, x)))[j]? = some m
      rw [List.getElem?_eq_getElem hj, e]
    -- the member as it was
    obtain ⟨m0, hm0, hu0, hs0, hg0⟩ : ∃ m0, l[j]? = some m0 ∧ m0.u = m.u ∧ m0.s = m.s ∧ m0.g ≤ m.g := by
      rcases set_get hb.at_ hjm with ⟨rfl, rfl⟩ | ⟨_, hl⟩
      · exact ⟨x, hb.at_, rfl, rfl, Nat.le_succ _⟩
      · exact ⟨m, hl, rfl, rfl, Nat.le_refl _⟩
    have hmem := List.mem_of_getElem? hm0
    by_cases hle : m.s ≤ m.g
    · exact .inl hle
    · rcases h m0 hmem (by rw [hu0]; exact e1 _ hu) with h3 | ⟨h3, h4⟩
      · omega
      · right
        have hl := hb.least j m0 hm0 (by rw [hu0]; exact e2 _ hu)
        have hms : 0 < m0.s := hp m0 hmem
        have hxs : x.g + 1 ≤ x.s := by
          refine Nat.le_of_mul_le_mul_right (c := m0.s) (Nat.le_trans hl ?_) hms
          rw [Nat.mul_comm x.s]
          exact Nat.mul_le_mul_right _ (by omega)
        refine ⟨by rw [sumG_more hb.at_, h3], fun y hy => ?_⟩
        rcases mem_set hb.at_ hy with hy | rfl
        · exact h4 y hy
        · exact hxs
theorem prom_end {ever : Nat → Bool} {t : Nat} {l : List Lm} (h : Prom ever t l) (ht : sumS l ≤ t) {m : Lm} (hm : m ∈ l) (hu : ever m.u = false) : m.s ≤ m.g := by
  rcases h m hm hu with h | ⟨h1, h2⟩
  · exact h
  · rw [sum_eq h2 (by omega) m hm]
    exact Nat.le_refl _
theorem pick_sumS (off : Nat → Bool) {l : List Lm} (hp : ∀ m ∈ l, 0 < m.s) : sumS (pickT off l) = sumS l := by
  unfold pickT
  cases hn : nextT off l with
  | none => rfl
  | some b => exact sumS_more (next_some hp hn).at_

/-! ### Exactness -/
def Even (t : Nat) (l : List Lm) : Prop := sumG l = t ∧ ∀ m ∈ l, m.g ≤ m.s
theorem even_begin (l : List Lm) : Even 0 (beginT l) := ⟨sumG_begin l, fun x hx => by rw [begin_g hx]; exact Nat.zero_le _⟩
theorem even_pick {t : Nat} {l : List Lm} (hp : ∀ m ∈ l, 0 < m.s) (h : Even t l) (ht : t < sumS l) : ∃ k x, nextT (fun _ => false) l = some (k, x) ∧ Even (t + 1) (pickT (fun _ => false) l) := by
  obtain ⟨h1, h2⟩ := h
  obtain ⟨m, hm, hlt⟩ := sum_lt (l := l) (by omega)
  obtain ⟨k, x, hn⟩ := next_on hp (List.length_pos_of_mem hm)
  have hb := next_some hp hn
  refine ⟨k, x, hn, ?_⟩
  unfold pickT
  rw [hn]
  refine ⟨by show sumG (l.set k (more x)) = _; rw [sumG_more hb.at_, h1], fun y hy => ?_⟩
  rcases mem_set hb.at_ hy with hy | rfl
  · exact h2 y hy
  · obtain ⟨j, hj, e⟩ := List.getElem_of_mem hm
    have hl := hb.least j m (by rw [List.getElem?_eq_getElem hj, e]) rfl
    show x.g + 1 ≤ x.s
    refine Nat.le_of_mul_le_mul_right (c := m.s) (Nat.le_trans hl ?_) (hp m hm)
    rw [Nat.mul_comm x.s]
    exact Nat.mul_le_mul_right _ (by omega)
theorem even_end {t : Nat} {l : List Lm} (h : Even t l) (ht : sumS l ≤ t) : ∀ m ∈ l, m.g = m.s := sum_eq h.2 (by rw [h.1]; exact ht)

/-! ### Proportion -/
def Part (t : Nat) (l : List Lm) : Prop := sumG l = t ∧ ∀ (i j : Nat) (x y : Lm), l[i]? = some x → l[j]? = some y → y.g * x.s ≤ (x.g + 1) * y.s
theorem part_begin (l : List Lm) : Part 0 (beginT l) := ⟨sumG_begin l, fun i j x y hx hy => by rw [begin_g (List.mem_of_getElem? hy), Nat.zero_mul]; exact Nat.zero_le _⟩
theorem part_pick {t : Nat} {l : List Lm} (hp : ∀ m ∈ l, 0 < m.s) (h : Part t l) (hl : 0 < l.length) : ∃ k x, nextT (fun _ => false) l = some (k, x) ∧ Part (t + 1) (pickT (fun _ => false) l) := by
  obtain ⟨h1, h2⟩ := h
  obtain ⟨k, x, hn⟩ := next_on hp hl
  have hb := next_some hp hn
  refine ⟨k, x, hn, ?_⟩
  unfold pickT
  rw [hn]
  refine ⟨by show sumG (l.set k (more x)) = _; rw [sumG_more hb.at_, h1], fun i j y z hy hz => ?_⟩
  rcases set_get hb.at_ hy with ⟨rfl, rfl⟩ | ⟨hi, hy'⟩
  · rcases set_get hb.at_ hz with ⟨rfl, rfl⟩ | ⟨hj, hz'⟩
    · exact Nat.mul_le_mul_right _ (Nat.le_succ _)
    · exact Nat.le_trans (h2 i j x z hb.at_ hz') (Nat.mul_le_mul_right _ (Nat.le_succ _))
  · rcases set_get hb.at_ hz with ⟨rfl, rfl⟩ | ⟨hj, hz'⟩
    · exact hb.least i y hy' rfl
    · exact h2 i j y z hy' hz'
theorem part_sum1 {a b : Nat} : ∀ {l : List Lm}, (∀ m ∈ l, m.g * a ≤ b * m.s) → sumG l * a ≤ b * sumS l
  | [], _ => by show 0 * a ≤ _; rw [Nat.zero_mul]; exact Nat.zero_le _
  | m :: l, h => by
    have h1 := h m List.mem_cons_self
    have h2 := part_sum1 (l := l) fun x hx => h x (List.mem_cons_of_mem _ hx)
    show (m.g + sumG l) * a ≤ b * (m.s + sumS l)
    rw [Nat.add_mul, Nat.mul_add]
    omega
theorem part_sum2 {a b : Nat} : ∀ {l : List Lm}, (∀ m ∈ l, a * m.s ≤ (m.g + 1) * b) → a * sumS l ≤ (sumG l + l.length) * b
  | [], _ => by show a * 0 ≤ _; rw [Nat.mul_zero]; exact Nat.zero_le _
  | m :: l, h => by
    have h1 := h m List.mem_cons_self
    have h2 := part_sum2 (l := l) fun x hx => h x (List.mem_cons_of_mem _ hx)
    show a * (m.s + sumS l) ≤ (m.g + sumG l + (l.length + 1)) * b
    rw [Nat.mul_add, show (m.g + sumG l + (l.length + 1)) = (m.g + 1) + (sumG l + l.length) by omega, Nat.add_mul]
    omega
/-- In words: what it got times all shares is at most its share times the picks, and (n - 1) times all; and the other way round. -/
theorem part_end {t : Nat} {l : List Lm} (hp : ∀ m ∈ l, 0 < m.s) (h : Part t l) {i : Nat} {x : Lm} (hx : l[i]? = some x) :
    x.g * sumS l ≤ x.s * t + (l.length - 1) * sumS l ∧ x.s * t ≤ x.g * sumS l + (l.length - 1) * sumS l := by
  obtain ⟨h1, h2⟩ := h
  have hxm := List.mem_of_getElem? hx
  have hxs : x.s ≤ sumS l := s_le hxm
  obtain ⟨hi, he⟩ := List.getElem?_eq_some_iff.1 hx
  have hl : l = l.take i ++ x :: l.drop (i + 1) := by rw [← drop_ofL hx, List.take_append_drop]
  obtain ⟨a, b, hab⟩ : ∃ a b, l = a ++ x :: b := ⟨_, _, hl⟩
  clear hl hi he
  have hall : ∀ y ∈ l, y.g * x.s ≤ (x.g + 1) * y.s ∧ x.g * y.s ≤ (y.g + 1) * x.s := by
    intro y hy
    obtain ⟨j, hj, e⟩ := List.getElem_of_mem hy
    have hj' : l[j]? = some y := by rw [List.getElem?_eq_getElem hj, e]
    exact ⟨h2 i j x y hx hj', h2 j i y x hj' hx⟩
  clear h2 hx
  have k1 := part_sum2 (l := a) (a := x.g) (b := x.s) fun y hy => (hall y (by rw [hab]; exact List.mem_append_left _ hy)).2
  have k2 := part_sum2 (l := b) (a := x.g) (b := x.s) fun y hy => (hall y (by rw [hab]; exact List.mem_append_right _ (List.mem_cons_of_mem _ hy))).2
  have k3 := part_sum1 (l := a) (a := x.s) (b := x.g + 1) fun y hy => (hall y (by rw [hab]; exact List.mem_append_left _ hy)).1
  have k4 := part_sum1 (l := b) (a := x.s) (b := x.g + 1) fun y hy => (hall y (by rw [hab]; exact List.mem_append_right _ (List.mem_cons_of_mem _ hy))).1
  have eS : sumS l = sumS a + (x.s + sumS b) := by rw [hab, sumS_append]; rfl
  have eG : sumG l = sumG a + (x.g + sumG b) := by rw [hab, sumG_append]; rfl
  have eL : l.length - 1 = a.length + b.length := by rw [hab, List.length_append, List.length_cons]; omega
  rw [h1] at eG
  clear hall hp hxm
  rw [eL]
  constructor
  · have e1 : x.g * sumS l = x.g * sumS a + (x.g * x.s + x.g * sumS b) := by rw [eS, Nat.mul_add, Nat.mul_add]
    have e2 : x.s * t = x.s * sumG a + (x.s * x.g + x.s * sumG b) := by rw [eG, Nat.mul_add, Nat.mul_add]
    have e3 : (a.length + b.length) * x.s ≤ (a.length + b.length) * sumS l := Nat.mul_le_mul_left _ hxs
    rw [Nat.add_mul] at k1 k2 e3
    rw [e1, e2]
    have c1 : sumG a * x.s = x.s * sumG a := Nat.mul_comm _ _
    have c2 : sumG b * x.s = x.s * sumG b := Nat.mul_comm _ _
    have c3 : x.g * x.s = x.s * x.g := Nat.mul_comm _ _
    omega
  · have e2 : x.s * t = x.s * sumG a + (x.s * x.g + x.s * sumG b) := by rw [eG, Nat.mul_add, Nat.mul_add]
    have e1 : x.g * sumS l = x.g * sumS a + (x.g * x.s + x.g * sumS b) := by rw [eS, Nat.mul_add, Nat.mul_add]
    rw [Nat.add_mul, Nat.one_mul] at k3 k4
    have c1 : sumG a * x.s = x.s * sumG a := Nat.mul_comm _ _
    have c2 : sumG b * x.s = x.s * sumG b := Nat.mul_comm _ _
    have c3 : x.g * x.s = x.s * x.g := Nat.mul_comm _ _
    by_cases e : a.length + b.length = 0
    · have ea : a = [] := List.eq_nil_of_length_eq_zero (by omega)
      have eb : b = [] := List.eq_nil_of_length_eq_zero (by omega)
      have z1 : sumG a = 0 := by rw [ea]; rfl
      have z2 : sumG b = 0 := by rw [eb]; rfl
      rw [e1, e2, z1, z2]
      omega
    · have e4 : 1 * sumS l ≤ (a.length + b.length) * sumS l := Nat.mul_le_mul_right _ (by omega)
      rw [Nat.one_mul] at e4
      rw [e2, e1]
      omega
end Go.Proofs.Ytngfcgegondmgaa
