/-
  Tables in numbers: the program's, and the document's; what each call makes of both.
  Conditions: none.
-/
set_option linter.unusedVariables false
namespace Go.Proofs.Ytlnheknhdabhdaa

def upd {β : Type} (f : Nat → β) (i : Nat) (v : β) : Nat → β := fun j => if j = i then v else f j
theorem upd_same {β : Type} (f : Nat → β) (i : Nat) (v : β) : upd f i v i = v := by unfold upd; rw [if_pos rfl]
theorem upd_other {β : Type} {f : Nat → β} {i j : Nat} {v : β} (h : j ≠ i) : upd f i v j = f j := by unfold upd; rw [if_neg h]

/-- How many of the first are in use. -/
def cntU (u : Nat → Bool) : Nat → Nat
  | 0 => 0
  | i + 1 => cntU u i + (if u i = true then 1 else 0)
theorem cntU_congr {u v : Nat → Bool} : ∀ {m : Nat}, (∀ i, i < m → u i = v i) → cntU u m = cntU v m
  | 0, _ => rfl
  | m + 1, h => by
    unfold cntU
    rw [cntU_congr (m := m) (fun i hi => h i (by omega)), h m (by omega)]
theorem cntU_on {u : Nat → Bool} {i : Nat} (h : u i = false) : ∀ {m : Nat}, i < m → cntU (upd u i true) m = cntU u m + 1
  | 0, hi => absurd hi (Nat.not_lt_zero i)
  | m + 1, hi => by
    unfold cntU
    by_cases e : i = m
    · subst e
      rw [upd_same, cntU_congr (v := u) (fun j hj => upd_other (by omega)), h]
      simp
    · rw [cntU_on h (m := m) (by omega), upd_other (fun h => e h.symm)]
      omega
theorem cntU_off {u : Nat → Bool} {i : Nat} (h : u i = true) : ∀ {m : Nat}, i < m → cntU (upd u i false) m + 1 = cntU u m
  | 0, hi => absurd hi (Nat.not_lt_zero i)
  | m + 1, hi => by
    unfold cntU
    by_cases e : i = m
    · subst e
      rw [upd_same, cntU_congr (v := u) (fun j hj => upd_other (by omega)), h]
      simp
    · have := cntU_off h (m := m) (by omega)
      rw [upd_other (fun h => e h.symm)]
      omega
theorem cntU_le (u : Nat → Bool) : ∀ m, cntU u m ≤ m
  | 0 => Nat.le_refl 0
  | m + 1 => by
    have := cntU_le u m
    unfold cntU
    split <;> omega
/-- If all are counted, each is in use. -/
theorem cntU_all {u : Nat → Bool} : ∀ {m : Nat}, cntU u m = m → ∀ i, i < m → u i = true
  | 0, _, i, hi => absurd hi (Nat.not_lt_zero i)
  | m + 1, h, i, hi => by
    unfold cntU at h
    have := cntU_le u m
    have hm : u m = true := by
      cases e : u m
      · rw [e] at h; simp at h; omega
      · rfl
    rw [hm] at h
    by_cases e : i = m
    · subst e; exact hm
    · exact cntU_all (m := m) (by simp at h; omega) i (by omega)

/-- The ids of the first that are in use. -/
def idsU (u : Nat → Bool) : Nat → List Nat
  | 0 => []
  | i + 1 => if u i = true then idsU u i ++ [i + 1] else idsU u i
theorem idsU_congr {u v : Nat → Bool} : ∀ {m : Nat}, (∀ i, i < m → u i = v i) → idsU u m = idsU v m
  | 0, _ => rfl
  | m + 1, h => by
    unfold idsU
    rw [idsU_congr (m := m) (fun i hi => h i (by omega)), h m (by omega)]
theorem idsU_more {u : Nat → Bool} {m : Nat} : ∀ {n : Nat}, m ≤ n → (∀ i, m ≤ i → i < n → u i = false) → idsU u n = idsU u m
  | 0, h, _ => by rw [show m = 0 by omega]
  | n + 1, h, hf => by
    by_cases e : m = n + 1
    · rw [e]
    · show (if u n = true then idsU u n ++ [n + 1] else idsU u n) = _
      rw [hf n (by omega) (by omega)]
      simp only [Bool.false_eq_true, if_false]
      exact idsU_more (by omega) (fun i h1 h2 => hf i h1 (by omega))
theorem idsU_length (u : Nat → Bool) : ∀ m, (idsU u m).length = cntU u m
  | 0 => rfl
  | m + 1 => by
    have := idsU_length u m
    unfold idsU cntU
    split <;> simp [this]

/-- The program's table: its size, how many have been in use, how many became free; what each slot holds, in which generation, whether it is in use; who became free, the latest last. -/
structure Ts (α : Type) where
  n : Nat
  m : Nat
  k : Nat
  x : Nat → α
  gen : Nat → Nat
  use : Nat → Bool
  fr : Nat → Nat

structure Okay {α : Type} (s : Ts α) : Prop where
  n0 : 0 < s.n
  n1 : s.n ≤ 1024
  mn : s.m ≤ s.n
  cnt : cntU s.use s.m + s.k = s.m
  lo : ∀ j, j < s.k → 0 < s.fr j ∧ s.fr j ≤ s.m
  off : ∀ j, j < s.k → s.use (s.fr j - 1) = false
  inj : ∀ i j, i < j → j < s.k → s.fr i ≠ s.fr j
  cov : ∀ i, i < s.m → s.use i = false → ∃ j, j < s.k ∧ s.fr j = i + 1

def newT {α : Type} (n : Nat) (z : α) : Ts α := ⟨n, 0, 0, fun _ => z, fun _ => 0, fun _ => false, fun _ => 0⟩
theorem newT_okay {α : Type} (n : Nat) (z : α) (h0 : 0 < n) (h1 : n ≤ 1024) : Okay (newT n z) :=
  ⟨h0, h1, Nat.zero_le _, rfl, fun j hj => absurd hj (Nat.not_lt_zero j), fun j hj => absurd hj (Nat.not_lt_zero j), fun i j _ hj => absurd hj (Nat.not_lt_zero j), fun i hi => absurd hi (Nat.not_lt_zero i)⟩

/-- Take of who became free last. -/
def takeOld {α : Type} (s : Ts α) (v : α) : Ts α := { s with k := s.k - 1, x := upd s.x (s.fr (s.k - 1) - 1) v, use := upd s.use (s.fr (s.k - 1) - 1) true }
/-- Take of who has never been in use. -/
def takeNew {α : Type} (s : Ts α) (v : α) : Ts α := { s with m := s.m + 1, x := upd s.x s.m v, gen := upd s.gen s.m 1, use := upd s.use s.m true }
def setT {α : Type} (s : Ts α) (i : Nat) (v : α) : Ts α := { s with x := upd s.x i v }
def dropT {α : Type} (s : Ts α) (i : Nat) (z : α) : Ts α := { s with k := s.k + 1, x := upd s.x i z, gen := upd s.gen i (s.gen i + 1), use := upd s.use i false, fr := upd s.fr s.k (i + 1) }

theorem Okay.old {α : Type} {s : Ts α} (h : Okay s) (v : α) (hk : 0 < s.k) : Okay (takeOld s v) where
  n0 := h.n0
  n1 := h.n1
  mn := h.mn
  cnt := by
    have h1 := (h.lo (s.k - 1) (by omega))
    have h2 := h.off (s.k - 1) (by omega)
    have h3 := cntU_on h2 (m := s.m) (by omega)
    have h4 := h.cnt
    show cntU (upd s.use (s.fr (s.k - 1) - 1) true) s.m + (s.k - 1) = s.m
    omega
  lo := fun j hj => h.lo j (by have hj' : j < s.k - 1 := hj; omega)
  off := fun j hj => by
    have hj' : j < s.k - 1 := hj
    have h1 := h.lo j (by omega)
    have h2 := h.lo (s.k - 1) (by omega)
    have h3 := h.inj j (s.k - 1) hj' (by omega)
    show upd s.use (s.fr (s.k - 1) - 1) true (s.fr j - 1) = false
    rw [upd_other (by omega)]
    exact h.off j (by omega)
  inj := fun i j hi hj => h.inj i j hi (by have hj' : j < s.k - 1 := hj; omega)
  cov := fun i hi hu => by
    have hu' : upd s.use (s.fr (s.k - 1) - 1) true i = false := hu
    have hne : i ≠ s.fr (s.k - 1) - 1 := fun e => by rw [e, upd_same] at hu'; cases hu'
    rw [upd_other hne] at hu'
    obtain ⟨j, h1, h2⟩ := h.cov i hi hu'
    have h3 := h.lo (s.k - 1) (by omega)
    refine ⟨j, ?_, h2⟩
    show j < s.k - 1
    have : j ≠ s.k - 1 := fun e => by rw [e] at h2; omega
    omega
theorem Okay.new {α : Type} {s : Ts α} (h : Okay s) (v : α) (hk : s.k = 0) (hm : s.m < s.n) : Okay (takeNew s v) where
  n0 := h.n0
  n1 := h.n1
  mn := hm
  cnt := by
    have h4 := h.cnt
    show cntU (upd s.use s.m true) (s.m + 1) + s.k = s.m + 1
    unfold cntU
    rw [upd_same, cntU_congr (v := s.use) (fun j hj => upd_other (by omega))]
    simp
    omega
  lo := fun j hj => absurd (show j < s.k from hj) (by omega)
  off := fun j hj => absurd (show j < s.k from hj) (by omega)
  inj := fun i j hi hj => absurd (show j < s.k from hj) (by omega)
  cov := fun i hi hu => by
    have hi' : i < s.m + 1 := hi
    have hu' : upd s.use s.m true i = false := hu
    have hne : i ≠ s.m := fun e => by rw [e, upd_same] at hu'; cases hu'
    rw [upd_other hne] at hu'
    exact h.cov i (by omega) hu'
theorem Okay.set {α : Type} {s : Ts α} (h : Okay s) (i : Nat) (v : α) : Okay (setT s i v) := ⟨h.n0, h.n1, h.mn, h.cnt, h.lo, h.off, h.inj, h.cov⟩
theorem Okay.drop {α : Type} {s : Ts α} (h : Okay s) {i : Nat} (z : α) (hi : i < s.m) (hu : s.use i = true) : Okay (dropT s i z) where
  n0 := h.n0
  n1 := h.n1
  mn := h.mn
  cnt := by
    have h3 := cntU_off hu hi
    have h4 := h.cnt
    show cntU (upd s.use i false) s.m + (s.k + 1) = s.m
    omega
  lo := fun j hj => by
    have hj' : j < s.k + 1 := hj
    show 0 < upd s.fr s.k (i + 1) j ∧ upd s.fr s.k (i + 1) j ≤ s.m
    by_cases e : j = s.k
    · rw [e, upd_same]; omega
    · rw [upd_other e]; exact h.lo j (by omega)
  off := fun j hj => by
    have hj' : j < s.k + 1 := hj
    show upd s.use i false (upd s.fr s.k (i + 1) j - 1) = false
    by_cases e : j = s.k
    · rw [e, upd_same, show i + 1 - 1 = i by omega, upd_same]
    · rw [upd_other e]
      by_cases e2 : s.fr j - 1 = i
      · rw [e2, upd_same]
      · rw [upd_other e2]; exact h.off j (by omega)
  inj := fun a j ha hj => by
    have hj' : j < s.k + 1 := hj
    show upd s.fr s.k (i + 1) a ≠ upd s.fr s.k (i + 1) j
    rw [upd_other (show a ≠ s.k by omega)]
    by_cases e : j = s.k
    · rw [e, upd_same]
      intro e2
      have := h.off a (by omega)
      rw [e2, show i + 1 - 1 = i by omega, hu] at this
      cases this
    · rw [upd_other e]; exact h.inj a j ha (by omega)
  cov := fun a ha hf => by
    have hf' : upd s.use i false a = false := hf
    show ∃ j, j < s.k + 1 ∧ upd s.fr s.k (i + 1) j = a + 1
    by_cases e : a = i
    · exact ⟨s.k, by omega, by rw [upd_same, e]⟩
    · rw [upd_other e] at hf'
      obtain ⟨j, h1, h2⟩ := h.cov a ha hf'
      exact ⟨j, by omega, by rw [upd_other (by omega)]; exact h2⟩

/-- Is the id, which may be any number, in use? -/
def inU {α : Type} (s : Ts α) (id : Int) : Bool := decide (1 ≤ id ∧ id ≤ (s.m : Int)) && s.use (id.toNat - 1)
theorem inU_some {α : Type} {s : Ts α} {id : Int} (h : inU s id = true) : ∃ i : Nat, id = ((i + 1 : Nat) : Int) ∧ i < s.m ∧ s.use i = true := by
  unfold inU at h
  rw [Bool.and_eq_true] at h
  obtain ⟨h1, h2⟩ := h
  have h1 := of_decide_eq_true h1
  refine ⟨id.toNat - 1, by omega, by omega, h2⟩
theorem inU_nat {α : Type} (s : Ts α) (i : Nat) : inU s ((i + 1 : Nat) : Int) = (decide (i < s.m) && s.use i) := by
  unfold inU
  rw [Int.toNat_natCast, show i + 1 - 1 = i by omega]
  congr 1
  by_cases h : i < s.m
  · rw [decide_eq_true h]; exact decide_eq_true (by omega)
  · rw [decide_eq_false h]; exact decide_eq_false (by omega)

/-- The document's table: its slots, and its clock. -/
structure Rs where
  n : Nat
  X : Nat → Int
  tk : Nat → Bool
  fd : Nat → Nat
  wh : Nat → Nat
  clk : Nat
def newR (n : Nat) : Rs := ⟨n, fun _ => 0, fun _ => false, fun _ => 0, fun _ => 0, 0⟩

/-- Who is taken next, of the first: 0: nobody. -/
def whichT (r : Rs) : Nat → Nat
  | 0 => 0
  | i + 1 => if r.tk i = true then whichT r i else if whichT r i = 0 ∨ r.wh (whichT r i - 1) < r.wh i then i + 1 else whichT r i
theorem whichT_le (r : Rs) : ∀ N, whichT r N ≤ N
  | 0 => Nat.le_refl 0
  | i + 1 => by
    have := whichT_le r i
    unfold whichT
    split
    · omega
    · split <;> omega
theorem whichT_none {r : Rs} : ∀ {N : Nat}, (∀ i, i < N → r.tk i = true) → whichT r N = 0
  | 0, _ => rfl
  | i + 1, h => by
    unfold whichT
    rw [if_pos (h i (by omega))]
    exact whichT_none fun j hj => h j (by omega)
theorem whichT_best {r : Rs} : ∀ {N : Nat}, (whichT r N = 0 ∧ ∀ i, i < N → r.tk i = true) ∨ ∃ b, whichT r N = b + 1 ∧ b < N ∧ r.tk b = false ∧ ∀ i, i < N → r.tk i = false → r.wh i < r.wh b ∨ (r.wh i = r.wh b ∧ b ≤ i)
  | 0 => .inl ⟨rfl, fun i hi => absurd hi (Nat.not_lt_zero i)⟩
  | N + 1 => by
    rcases whichT_best (r := r) (N := N) with ⟨e, h⟩ | ⟨b, e, hb, ht, h⟩
    · unfold whichT
      cases hN : r.tk N
      · right
        refine ⟨N, by rw [if_neg (by simp), if_pos (.inl e)], by omega, hN, fun i hi hf => ?_⟩
        by_cases e2 : i = N
        · subst e2; exact .inr ⟨rfl, Nat.le_refl _⟩
        · rw [h i (by omega)] at hf; cases hf
      · left
        refine ⟨by rw [if_pos rfl]; exact e, fun i hi => ?_⟩
        by_cases e2 : i = N
        · subst e2; exact hN
        · exact h i (by omega)
    · right
      unfold whichT
      cases hN : r.tk N
      · by_cases hw : r.wh b < r.wh N
        · refine ⟨N, by rw [if_neg (by simp), if_pos (.inr (by rw [e]; exact hw))], by omega, hN, fun i hi hf => ?_⟩
          by_cases e2 : i = N
          · subst e2; exact .inr ⟨rfl, Nat.le_refl _⟩
          · rcases h i (by omega) hf with h1 | ⟨h1, h2⟩ <;> (left; omega)
        · refine ⟨b, by rw [if_neg (by simp), if_neg (by rw [e]; show ¬ (_ ∨ _); simp; omega)]; exact e, by omega, ht, fun i hi hf => ?_⟩
          by_cases e2 : i = N
          · subst e2
            rcases Nat.lt_or_ge (r.wh i) (r.wh b) with h1 | h1
            · exact .inl h1
            · exact .inr ⟨by omega, by omega⟩
          · exact h i (by omega) hf
      · refine ⟨b, by rw [if_pos rfl]; exact e, by omega, ht, fun i hi hf => ?_⟩
        by_cases e2 : i = N
        · subst e2; rw [hN] at hf; cases hf
        · exact h i (by omega) hf
theorem whichT_is {r : Rs} {N z : Nat} (hz : z < N) (ht : r.tk z = false) (h : ∀ i, i < N → r.tk i = false → r.wh i < r.wh z ∨ (r.wh i = r.wh z ∧ z ≤ i)) : whichT r N = z + 1 := by
  rcases whichT_best (r := r) (N := N) with ⟨_, ha⟩ | ⟨b, e, hb, hbt, hba⟩
  · rw [ha z hz] at ht; cases ht
  · have h1 := h b hb hbt
    have h2 := hba z hz ht
    rw [e]
    omega

def takeR (r : Rs) (id : Nat) (v : Int) : Rs := { r with X := upd r.X (id - 1) v, tk := upd r.tk (id - 1) true, clk := r.clk + 1 }
def setR (r : Rs) (i : Nat) (v : Int) : Rs := { r with X := upd r.X i v, clk := r.clk + 1 }
def dropR (r : Rs) (i : Nat) : Rs := { r with X := upd r.X i 0, tk := upd r.tk i false, fd := upd r.fd i (r.fd i + 1), wh := upd r.wh i (r.clk + 1), clk := r.clk + 1 }

/-- Both tables tell the same. -/
structure Agree (s : Ts Int) (r : Rs) : Prop where
  n : r.n = s.n
  tk : ∀ i, i < s.m → r.tk i = s.use i
  gen : ∀ i, i < s.m → s.gen i = r.fd i + 1
  x : ∀ i, i < s.m → s.use i = true → r.X i = s.x i
  rest : ∀ i, s.m ≤ i → i < s.n → r.tk i = false ∧ r.fd i = 0 ∧ r.wh i = 0
  was : ∀ j, j < s.k → 0 < r.wh (s.fr j - 1)
  late : ∀ i j, i < j → j < s.k → r.wh (s.fr i - 1) < r.wh (s.fr j - 1)
  clk : ∀ i, i < s.n → r.wh i ≤ r.clk
  few : ∀ i, i < s.n → r.fd i ≤ r.clk

theorem agree_new (n : Nat) : Agree (newT n 0) (newR n) :=
  ⟨rfl, fun i hi => absurd hi (Nat.not_lt_zero i), fun i hi => absurd hi (Nat.not_lt_zero i), fun i hi => absurd hi (Nat.not_lt_zero i), fun i _ _ => ⟨rfl, rfl, rfl⟩,
    fun j hj => absurd hj (Nat.not_lt_zero j), fun i j _ hj => absurd hj (Nat.not_lt_zero j), fun i _ => Nat.le_refl _, fun i _ => Nat.le_refl _⟩

theorem Agree.next {s : Ts Int} {r : Rs} (h : Agree s r) (o : Okay s) : whichT r r.n = if 0 < s.k then s.fr (s.k - 1) else if s.m < s.n then s.m + 1 else 0 := by
  rw [h.n]
  have hmn := o.mn
  by_cases hk : 0 < s.k
  · rw [if_pos hk]
    have h1 := o.lo (s.k - 1) (by omega)
    have h2 := o.off (s.k - 1) (by omega)
    have := whichT_is (r := r) (N := s.n) (z := s.fr (s.k - 1) - 1) (by omega) (by rw [h.tk _ (by omega)]; exact h2) (fun i hi hf => by
      by_cases him : i < s.m
      · rw [h.tk i him] at hf
        obtain ⟨j, hj, e⟩ := o.cov i him hf
        have e' : i = s.fr j - 1 := by omega
        by_cases ej : j = s.k - 1
        · subst ej; right; rw [e']; exact ⟨rfl, Nat.le_refl _⟩
        · left; rw [e']; exact h.late j (s.k - 1) (by omega) (by omega)
      · left
        rw [(h.rest i (by omega) hi).2.2]
        exact h.was (s.k - 1) (by omega))
    rw [this]
    omega
  · rw [if_neg hk]
    have hall : ∀ i, i < s.m → r.tk i = true := fun i hi => by
      rw [h.tk i hi]
      exact cntU_all (by have := o.cnt; omega) i hi
    by_cases hm : s.m < s.n
    · rw [if_pos hm]
      refine whichT_is hm (h.rest s.m (Nat.le_refl _) hm).1 (fun i hi hf => ?_)
      by_cases him : i < s.m
      · rw [hall i him] at hf; cases hf
      · right
        rw [(h.rest i (by omega) hi).2.2, (h.rest s.m (Nat.le_refl _) hm).2.2]
        exact ⟨rfl, by omega⟩
    · rw [if_neg hm]
      exact whichT_none fun i hi => hall i (by omega)

theorem Agree.old {s : Ts Int} {r : Rs} (h : Agree s r) (o : Okay s) (v : Int) (hk : 0 < s.k) : Agree (takeOld s v) (takeR r (s.fr (s.k - 1)) v) where
  n := h.n
  tk := fun i hi => by
    show upd r.tk (s.fr (s.k - 1) - 1) true i = upd s.use (s.fr (s.k - 1) - 1) true i
    unfold upd; split
    · rfl
    · exact h.tk i hi
  gen := h.gen
  x := fun i hi hu => by
    have hu' : upd s.use (s.fr (s.k - 1) - 1) true i = true := hu
    show upd r.X (s.fr (s.k - 1) - 1) v i = upd s.x (s.fr (s.k - 1) - 1) v i
    unfold upd at *; split
    · rfl
    · rename_i e
      rw [if_neg e] at hu'
      exact h.x i hi hu'
  rest := fun i h1 h2 => by
    have h3 := o.lo (s.k - 1) (by omega)
    have h1' : s.m ≤ i := h1
    have := h.rest i h1 h2
    refine ⟨?_, this.2.1, this.2.2⟩
    show upd r.tk (s.fr (s.k - 1) - 1) true i = false
    rw [upd_other (by omega)]
    exact this.1
  was := fun j hj => h.was j (by have hj' : j < s.k - 1 := hj; omega)
  late := fun i j hi hj => h.late i j hi (by have hj' : j < s.k - 1 := hj; omega)
  clk := fun i hi => Nat.le_succ_of_le (h.clk i hi)
  few := fun i hi => Nat.le_succ_of_le (h.few i hi)
theorem Agree.fresh {s : Ts Int} {r : Rs} (h : Agree s r) (o : Okay s) (v : Int) (hk : s.k = 0) (hm : s.m < s.n) : Agree (takeNew s v) (takeR r (s.m + 1) v) where
  n := h.n
  tk := fun i hi => by
    have hi' : i < s.m + 1 := hi
    show upd r.tk (s.m + 1 - 1) true i = upd s.use s.m true i
    rw [show s.m + 1 - 1 = s.m by omega]
    by_cases e : i = s.m
    · rw [e, upd_same, upd_same]
    · rw [upd_other e, upd_other e]; exact h.tk i (by omega)
  gen := fun i hi => by
    have hi' : i < s.m + 1 := hi
    show upd s.gen s.m 1 i = r.fd i + 1
    by_cases e : i = s.m
    · rw [e, upd_same, (h.rest s.m (Nat.le_refl _) hm).2.1]
    · rw [upd_other e]; exact h.gen i (by omega)
  x := fun i hi hu => by
    have hi' : i < s.m + 1 := hi
    have hu' : upd s.use s.m true i = true := hu
    show upd r.X (s.m + 1 - 1) v i = upd s.x s.m v i
    rw [show s.m + 1 - 1 = s.m by omega]
    by_cases e : i = s.m
    · rw [e, upd_same, upd_same]
    · rw [upd_other e, upd_other e]
      rw [upd_other e] at hu'
      exact h.x i (by omega) hu'
  rest := fun i h1 h2 => by
    have h1' : s.m + 1 ≤ i := h1
    have := h.rest i (by omega) h2
    refine ⟨?_, this.2.1, this.2.2⟩
    show upd r.tk (s.m + 1 - 1) true i = false
    rw [upd_other (by omega)]
    exact this.1
  was := fun j hj => absurd (show j < s.k from hj) (by omega)
  late := fun i j hi hj => absurd (show j < s.k from hj) (by omega)
  clk := fun i hi => Nat.le_succ_of_le (h.clk i hi)
  few := fun i hi => Nat.le_succ_of_le (h.few i hi)
theorem Agree.put {s : Ts Int} {r : Rs} (h : Agree s r) (i : Nat) (v : Int) : Agree (setT s i v) (setR r i v) where
  n := h.n
  tk := h.tk
  gen := h.gen
  x := fun j hj hu => by
    show upd r.X i v j = upd s.x i v j
    unfold upd; split
    · rfl
    · exact h.x j hj hu
  rest := h.rest
  was := h.was
  late := h.late
  clk := fun i hi => Nat.le_succ_of_le (h.clk i hi)
  few := fun i hi => Nat.le_succ_of_le (h.few i hi)
theorem Agree.drop {s : Ts Int} {r : Rs} (h : Agree s r) (o : Okay s) {i : Nat} (hi : i < s.m) (hu : s.use i = true) : Agree (dropT s i 0) (dropR r i) where
  n := h.n
  tk := fun j hj => by
    show upd r.tk i false j = upd s.use i false j
    unfold upd; split
    · rfl
    · exact h.tk j hj
  gen := fun j hj => by
    show upd s.gen i (s.gen i + 1) j = upd r.fd i (r.fd i + 1) j + 1
    unfold upd; split
    · rw [h.gen i hi]
    · exact h.gen j hj
  x := fun j hj hu' => by
    have hu' : upd s.use i false j = true := hu'
    have e : j ≠ i := fun e => by rw [e, upd_same] at hu'; cases hu'
    show upd r.X i 0 j = upd s.x i 0 j
    rw [upd_other e, upd_other e]
    rw [upd_other e] at hu'
    exact h.x j hj hu'
  rest := fun j h1 h2 => by
    have h1' : s.m ≤ j := h1
    have := h.rest j h1 h2
    show upd r.tk i false j = false ∧ upd r.fd i (r.fd i + 1) j = 0 ∧ upd r.wh i (r.clk + 1) j = 0
    rw [upd_other (by omega), upd_other (by omega), upd_other (by omega)]
    exact this
  was := fun j hj => by
    have hj' : j < s.k + 1 := hj
    show 0 < upd r.wh i (r.clk + 1) (upd s.fr s.k (i + 1) j - 1)
    by_cases e : j = s.k
    · rw [e, upd_same, show i + 1 - 1 = i by omega, upd_same]; omega
    · rw [upd_other e]
      by_cases e2 : s.fr j - 1 = i
      · rw [e2, upd_same]; omega
      · rw [upd_other e2]; exact h.was j (by omega)
  late := fun a j ha hj => by
    have hj' : j < s.k + 1 := hj
    show upd r.wh i (r.clk + 1) (upd s.fr s.k (i + 1) a - 1) < upd r.wh i (r.clk + 1) (upd s.fr s.k (i + 1) j - 1)
    have hoff : ∀ q, q < s.k → s.fr q - 1 ≠ i := fun q hq e => by
      have := o.off q hq
      rw [e, hu] at this
      cases this
    rw [upd_other (show a ≠ s.k by omega), upd_other (hoff a (by omega))]
    by_cases e : j = s.k
    · rw [e, upd_same, show i + 1 - 1 = i by omega, upd_same]
      have h1 := o.lo a (by omega)
      have := h.clk (s.fr a - 1) (by have := o.mn; omega)
      omega
    · rw [upd_other e, upd_other (hoff j (by omega))]
      exact h.late a j ha (by omega)
  clk := fun j hj => by
    show upd r.wh i (r.clk + 1) j ≤ r.clk + 1
    by_cases e : j = i
    · rw [e, upd_same]; exact Nat.le_refl _
    · rw [upd_other e]; exact Nat.le_succ_of_le (h.clk j hj)
  few := fun j hj => by
    show upd r.fd i (r.fd i + 1) j ≤ r.clk + 1
    by_cases e : j = i
    · rw [e, upd_same]; have := h.few i (e ▸ hj); omega
    · rw [upd_other e]; exact Nat.le_succ_of_le (h.few j hj)

theorem Agree.ids {s : Ts Int} {r : Rs} (h : Agree s r) (o : Okay s) : idsU s.use s.m = idsU r.tk r.n := by
  rw [h.n, idsU_more o.mn (fun i h1 h2 => (h.rest i h1 h2).1)]
  exact idsU_congr fun i hi => (h.tk i hi).symm
theorem Agree.has {s : Ts Int} {r : Rs} (h : Agree s r) (o : Okay s) (id : Int) : (decide (1 ≤ id ∧ id ≤ (r.n : Int)) && r.tk (id.toNat - 1)) = inU s id := by
  unfold inU
  rw [h.n]
  have hmn := o.mn
  by_cases h1 : 1 ≤ id ∧ id ≤ (s.m : Int)
  · rw [decide_eq_true h1, decide_eq_true (show 1 ≤ id ∧ id ≤ (s.n : Int) by omega), h.tk _ (by omega)]
  · rw [decide_eq_false h1]
    by_cases h2 : 1 ≤ id ∧ id ≤ (s.n : Int)
    · rw [decide_eq_true h2, (h.rest (id.toNat - 1) (by omega) (by omega)).1]; rfl
    · rw [decide_eq_false h2]; rfl

/-- What was put under an id and its generation is there, or nothing is. -/
structure Kept (s : Ts Int) (c : Nat) (ids gens : Nat → Nat) : Prop where
  lo : ∀ j, j < c → 0 < ids j ∧ ids j ≤ s.m
  hi : ∀ j, j < c → gens j ≤ s.gen (ids j - 1)
  is : ∀ j, j < c → gens j = s.gen (ids j - 1) → s.use (ids j - 1) = true ∧ s.x (ids j - 1) = (j : Int)
theorem kept_new (n : Nat) (ids gens : Nat → Nat) : Kept (newT n 0) 0 ids gens :=
  ⟨fun j hj => absurd hj (Nat.not_lt_zero j), fun j hj => absurd hj (Nat.not_lt_zero j), fun j hj => absurd hj (Nat.not_lt_zero j)⟩
theorem Kept.old {s : Ts Int} {c : Nat} {ids gens : Nat → Nat} (h : Kept s c ids gens) (o : Okay s) (hk : 0 < s.k) :
    Kept (takeOld s c) (c + 1) (upd ids c (s.fr (s.k - 1))) (upd gens c (s.gen (s.fr (s.k - 1) - 1))) := by
  have h1 := o.lo (s.k - 1) (by omega)
  have h2 := o.off (s.k - 1) (by omega)
  refine ⟨fun j hj => ?_, fun j hj => ?_, fun j hj he => ?_⟩
  · by_cases e : j = c
    · rw [e, upd_same]; exact h1
    · rw [upd_other e]; exact h.lo j (by omega)
  · show upd gens c _ j ≤ s.gen (upd ids c _ j - 1)
    by_cases e : j = c
    · rw [e, upd_same, upd_same]; exact Nat.le_refl _
    · rw [upd_other e, upd_other e]; exact h.hi j (by omega)
  · have he' : upd gens c (s.gen (s.fr (s.k - 1) - 1)) j = s.gen (upd ids c (s.fr (s.k - 1)) j - 1) := he
    show upd s.use (s.fr (s.k - 1) - 1) true (upd ids c (s.fr (s.k - 1)) j - 1) = true ∧ upd s.x (s.fr (s.k - 1) - 1) (c : Int) (upd ids c (s.fr (s.k - 1)) j - 1) = (j : Int)
    by_cases e : j = c
    · rw [e, upd_same, upd_same, upd_same]; exact ⟨rfl, rfl⟩
    · rw [upd_other e, upd_other e] at he'
      have h3 := h.is j (by omega) he'
      have hne : ids j - 1 ≠ s.fr (s.k - 1) - 1 := fun e2 => by rw [e2, h2] at h3; cases h3.1
      rw [upd_other e, upd_other hne, upd_other hne]
      exact h3
theorem Kept.fresh {s : Ts Int} {c : Nat} {ids gens : Nat → Nat} (h : Kept s c ids gens) : Kept (takeNew s c) (c + 1) (upd ids c (s.m + 1)) (upd gens c 1) := by
  refine ⟨fun j hj => ?_, fun j hj => ?_, fun j hj he => ?_⟩
  · show 0 < upd ids c (s.m + 1) j ∧ upd ids c (s.m + 1) j ≤ s.m + 1
    by_cases e : j = c
    · rw [e, upd_same]; omega
    · rw [upd_other e]; have := h.lo j (by omega); omega
  · show upd gens c 1 j ≤ upd s.gen s.m 1 (upd ids c (s.m + 1) j - 1)
    by_cases e : j = c
    · rw [e, upd_same, upd_same, show s.m + 1 - 1 = s.m by omega, upd_same]; exact Nat.le_refl _
    · have h1 := h.lo j (by omega)
      rw [upd_other e, upd_other e, upd_other (by omega)]; exact h.hi j (by omega)
  · have he' : upd gens c 1 j = upd s.gen s.m 1 (upd ids c (s.m + 1) j - 1) := he
    show upd s.use s.m true (upd ids c (s.m + 1) j - 1) = true ∧ upd s.x s.m (c : Int) (upd ids c (s.m + 1) j - 1) = (j : Int)
    by_cases e : j = c
    · rw [e, upd_same, show s.m + 1 - 1 = s.m by omega, upd_same, upd_same]; exact ⟨rfl, rfl⟩
    · have h1 := h.lo j (by omega)
      rw [upd_other e, upd_other e, upd_other (by omega)] at he'
      rw [upd_other e, upd_other (by omega), upd_other (by omega)]
      exact h.is j (by omega) he'
theorem Kept.drop {s : Ts Int} {c : Nat} {ids gens : Nat → Nat} (h : Kept s c ids gens) (i : Nat) : Kept (dropT s i 0) c ids gens := by
  refine ⟨h.lo, fun j hj => ?_, fun j hj he => ?_⟩
  · have := h.hi j hj
    show gens j ≤ upd s.gen i (s.gen i + 1) (ids j - 1)
    by_cases e : ids j - 1 = i
    · rw [e, upd_same]; rw [e] at this; omega
    · rw [upd_other e]; exact this
  · have := h.hi j hj
    have he' : gens j = upd s.gen i (s.gen i + 1) (ids j - 1) := he
    show upd s.use i false (ids j - 1) = true ∧ upd s.x i 0 (ids j - 1) = (j : Int)
    have e : ids j - 1 ≠ i := fun e => by rw [e, upd_same] at he'; rw [e] at this; omega
    rw [upd_other e] at he'
    rw [upd_other e, upd_other e]
    exact h.is j hj he'
end Go.Proofs.Ytlnheknhdabhdaa
