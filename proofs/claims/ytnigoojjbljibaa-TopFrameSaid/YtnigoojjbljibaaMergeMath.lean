/-
  The mathematics of a merge in place: where it is cut, and that both halves merged are the whole.
  Conditions: none.
-/
import Derived.Test.YtnigoojjbljibaaInsert
set_option linter.unusedVariables false
namespace Go.Proofs.Ytnigoojjbljibaa

section
variable {key : Nat → Int} {a m b s e : Nat} {d f : Nat → Nat}

theorem SortedIn.le (h : SortedIn key a b d) {i j : Nat} (hi : a ≤ i) (hij : i ≤ j) (hj : j < b) {x : Nat} (hb : bef key (d j) x) : bef key (d i) x := by
  rcases Nat.lt_or_ge i j with h1 | h1
  · exact (h i j hi h1 hj).trans hb
  · obtain rfl : i = j := by omega
    exact hb
theorem SortedIn.ge (h : SortedIn key a b d) {i j : Nat} (hi : a ≤ i) (hij : i ≤ j) (hj : j < b) {x : Nat} (hb : bef key x (d i)) : bef key x (d j) := by
  rcases Nat.lt_or_ge i j with h1 | h1
  · exact hb.trans (h i j hi h1 hj)
  · obtain rfl : i = j := by omega
    exact hb
theorem sorted_join (h1 : SortedIn key a m f) (h2 : SortedIn key m b f) (h : ∀ x y, a ≤ x → x < m → m ≤ y → y < b → bef key (f x) (f y)) : SortedIn key a b f := by
  intro i j hi hij hj
  by_cases c1 : j < m
  · exact h1 i j hi hij c1
  · by_cases c2 : m ≤ i
    · exact h2 i j c2 hij hj
    · exact h i j hi (by omega) (by omega) hj

theorem rot_a (h : s ≤ m) (k : m ≤ e) {x : Nat} (hx : x < s) : rot s m e d x = d x := by unfold rot; rw [if_neg (by omega), if_neg (by omega)]
theorem rot_b (h : s ≤ m) (k : m ≤ e) {x : Nat} (h1 : s ≤ x) (h2 : x < s + (e - m)) : rot s m e d x = d (x + (m - s)) := by unfold rot; rw [if_pos (by omega)]
theorem rot_c (h : s ≤ m) (k : m ≤ e) {x : Nat} (h1 : s + (e - m) ≤ x) (h2 : x < e) : rot s m e d x = d (x - (e - m)) := by unfold rot; rw [if_neg (by omega), if_pos (by omega)]
theorem rot_d (h : s ≤ m) (k : m ≤ e) {x : Nat} (h1 : e ≤ x) : rot s m e d x = d x := by unfold rot; rw [if_neg (by omega), if_neg (by omega)]

/-- Where a merge may be cut. -/
structure Cut (key : Nat → Int) (a m b s e : Nat) (d : Nat → Nat) : Prop where
  as_ : a ≤ s
  sm : s ≤ m
  me : m ≤ e
  eb : e ≤ b
  left : SortedIn key a m d
  right : SortedIn key m b d
  tag : ∀ p q, a ≤ p → p < m → m ≤ q → q < b → d p < d q
  c1 : ∀ p q, a ≤ p → p < s → e ≤ q → q < b → bef key (d p) (d q)
  c2 : ∀ p q, s ≤ p → p < m → m ≤ q → q < e → bef key (d q) (d p)

theorem Cut.across (h : Cut key a m b s e d) {x y : Nat} (h1 : a ≤ x) (h2 : x < s + (e - m)) (h3 : s + (e - m) ≤ y) (h4 : y < b) : bef key (rot s m e d x) (rot s m e d y) := by
  have := h.as_
  have := h.sm
  have := h.me
  have := h.eb
  by_cases cx : x < s
  · rw [rot_a h.sm h.me cx]
    by_cases cy : y < e
    · rw [rot_c h.sm h.me h3 cy]; exact h.left _ _ h1 (by omega) (by omega)
    · rw [rot_d h.sm h.me (by omega)]; exact h.c1 _ _ h1 cx (by omega) h4
  · rw [rot_b h.sm h.me (by omega) h2]
    by_cases cy : y < e
    · rw [rot_c h.sm h.me h3 cy]; exact h.c2 _ _ (by omega) (by omega) (by omega) (by omega)
    · rw [rot_d h.sm h.me (by omega)]; exact h.right _ _ (by omega) (by omega) h4
theorem Cut.s1 (h : Cut key a m b s e d) : SortedIn key a s (rot s m e d) := by
  have := h.sm
  intro i j hi hij hj
  rw [rot_a h.sm h.me (by omega), rot_a h.sm h.me hj]
  exact h.left i j hi hij (by omega)
theorem Cut.s2 (h : Cut key a m b s e d) : SortedIn key s (s + (e - m)) (rot s m e d) := by
  have := h.sm
  have := h.me
  have := h.eb
  intro i j hi hij hj
  rw [rot_b h.sm h.me hi (by omega), rot_b h.sm h.me (by omega) hj]
  exact h.right _ _ (by omega) (by omega) (by omega)
theorem Cut.s3 (h : Cut key a m b s e d) : SortedIn key (s + (e - m)) e (rot s m e d) := by
  have := h.as_
  have := h.sm
  have := h.me
  intro i j hi hij hj
  rw [rot_c h.sm h.me hi (by omega), rot_c h.sm h.me (by omega) hj]
  exact h.left _ _ (by omega) (by omega) (by omega)
theorem Cut.s4 (h : Cut key a m b s e d) : SortedIn key e b (rot s m e d) := by
  have := h.me
  intro i j hi hij hj
  rw [rot_d h.sm h.me hi, rot_d h.sm h.me (by omega)]
  exact h.right i j (by omega) hij hj
theorem Cut.t1 (h : Cut key a m b s e d) : ∀ x y, a ≤ x → x < s → s ≤ y → y < s + (e - m) → rot s m e d x < rot s m e d y := by
  have := h.sm
  have := h.me
  have := h.eb
  intro x y h1 h2 h3 h4
  rw [rot_a h.sm h.me h2, rot_b h.sm h.me h3 h4]
  exact h.tag _ _ h1 (by omega) (by omega) (by omega)
theorem Cut.t2 (h : Cut key a m b s e d) : ∀ x y, s + (e - m) ≤ x → x < e → e ≤ y → y < b → rot s m e d x < rot s m e d y := by
  have := h.as_
  have := h.sm
  have := h.me
  intro x y h1 h2 h3 h4
  rw [rot_c h.sm h.me h1 h2, rot_d h.sm h.me h3]
  exact h.tag _ _ (by omega) (by omega) (by omega) h4
theorem Cut.perm (h : Cut key a m b s e d) : PermOn a b d (rot s m e d) := (PermOn.rot d h.sm h.me).mono h.as_ h.eb

/-- Both halves sorted: all of it. -/
theorem Cut.whole (h : Cut key a m b s e d) {r1 r2 : Nat → Nat} (p1 : PermOn a (s + (e - m)) (rot s m e d) r1) (q1 : SortedIn key a (s + (e - m)) r1) (p2 : PermOn (s + (e - m)) b r1 r2) (q2 : SortedIn key (s + (e - m)) b r2) :
    PermOn a b d r2 ∧ SortedIn key a b r2 := by
  have := h.as_
  have := h.sm
  have := h.me
  have := h.eb
  refine ⟨(h.perm.trans (p1.mono (Nat.le_refl _) (by omega))).trans (p2.mono (by omega) (Nat.le_refl _)), ?_⟩
  have e1 : ∀ x, a ≤ x → x < s + (e - m) → r2 x = r1 x := fun x h1 h2 => p2.out (.inl h2)
  refine sorted_join (m := s + (e - m)) (fun i j hi hij hj => ?_) q2 (fun x y h1 h2 h3 h4 => ?_)
  · rw [e1 i hi (by omega), e1 j (by omega) hj]
    exact q1 i j hi hij hj
  · rw [e1 x h1 h2]
    have k1 : ∀ x, a ≤ x → x < s + (e - m) → ∀ y, s + (e - m) ≤ y → y < b → bef key (r1 x) (rot s m e d y) :=
      p1.all (Q := fun z => ∀ y, s + (e - m) ≤ y → y < b → bef key z (rot s m e d y)) (fun x h1 h2 y h3 h4 => h.across h1 h2 h3 h4)
    have k2 := k1 x h1 h2
    have k3 : ∀ y, s + (e - m) ≤ y → y < b → bef key (r1 x) (r1 y) := fun y h3 h4 => by
      rw [p1.out (i := y) (.inr h3)]
      exact k2 y h3 h4
    exact p2.all (Q := fun z => bef key (r1 x) z) k3 y h3 h4

/-- One on the left. -/
theorem one_left (hr : SortedIn key (a + 1) b d) (ht : ∀ q, a + 1 ≤ q → q < b → d a < d q) {i : Nat} (h1 : a + 1 ≤ i) (h2 : i ≤ b) (hT : i = a + 1 ∨ key (d a) < key (d (i - 1))) (hF : i = b ∨ ¬ key (d a) < key (d i)) :
    PermOn a b d (rot a (a + 1) i d) ∧ SortedIn key a b (rot a (a + 1) i d) := by
  have k2 : ∀ p q, a ≤ p → p < a + 1 → a + 1 ≤ q → q < i → bef key (d q) (d p) := fun p q g1 g2 g3 g4 => by
    obtain rfl : p = a := by omega
    rcases hT with rfl | hT
    · omega
    · exact hr.le (i := q) (j := i - 1) g3 (by omega) (by omega) (bef_lt hT)
  have k3 : ∀ p q, a ≤ p → p < a + 1 → a + 1 ≤ q → q < b → d p < d q := fun p q g1 g2 g3 g4 => by
    obtain rfl : p = a := by omega
    exact ht q g3 g4
  have hc : Cut key a (a + 1) b a i d := ⟨Nat.le_refl _, (by omega), h1, h2, (fun p q g1 g2 g3 => by omega), hr, k3, (fun p q g1 g2 => by omega), k2⟩
  have hmid : a + (i - (a + 1)) = i - 1 := by omega
  refine ⟨hc.perm, sorted_join (m := a + (i - (a + 1))) hc.s2 (sorted_join (m := i) hc.s3 hc.s4 (fun x y g1 g2 g3 g4 => ?_)) (fun x y g1 g2 g3 g4 => hc.across g1 g2 g3 g4)⟩
  rw [rot_c (by omega) h1 g1 g2, rot_d (by omega) h1 g3]
  rw [show x - (i - (a + 1)) = a by omega]
  rcases hF with rfl | hF
  · omega
  · exact hr.ge (i := i) (j := y) h1 g3 g4 (bef_tag hF (ht i h1 (by omega)))

/-- One on the right. -/
theorem one_right (hl : SortedIn key a m d) (ht : ∀ p, a ≤ p → p < m → d p < d m) {i : Nat} (h1 : a ≤ i) (h2 : i ≤ m) (hT : i = a ∨ ¬ key (d (i - 1)) < key (d m)) (hF : i = m ∨ key (d i) < key (d m)) :
    PermOn a (m + 1) d (rot i m (m + 1) d) ∧ SortedIn key a (m + 1) (rot i m (m + 1) d) := by
  have k2 : ∀ p q, i ≤ p → p < m → m ≤ q → q < m + 1 → bef key (d q) (d p) := fun p q g1 g2 g3 g4 => by
    obtain rfl : q = m := by omega
    rcases hF with rfl | hF
    · omega
    · exact hl.ge (i := i) (j := p) h1 g1 g2 (bef_lt hF)
  have k3 : ∀ p q, a ≤ p → p < m → m ≤ q → q < m + 1 → d p < d q := fun p q g1 g2 g3 g4 => by
    obtain rfl : q = m := by omega
    exact ht p g1 g2
  have hc : Cut key a m (m + 1) i (m + 1) d := ⟨h1, h2, (by omega), Nat.le_refl _, hl, (fun p q g1 g2 g3 => by omega), k3, (fun p q g1 g2 g3 g4 => by omega), k2⟩
  refine ⟨hc.perm, sorted_join (m := i + (m + 1 - m)) (sorted_join (m := i) hc.s1 hc.s2 (fun x y g1 g2 g3 g4 => ?_)) hc.s3 (fun x y g1 g2 g3 g4 => hc.across g1 g2 g3 g4)⟩
  rw [rot_a h2 (by omega) g2, rot_b h2 (by omega) g3 g4]
  rw [show y + (m - i) = m by omega]
  rcases hT with rfl | hT
  · omega
  · exact hl.le (i := x) (j := i - 1) g1 (by omega) (by omega) (bef_tag hT (ht (i - 1) (by omega) (by omega)))

/-- Many on both sides. -/
theorem many (hl : SortedIn key a m d) (hr : SortedIn key m b d) (ht : ∀ p q, a ≤ p → p < m → m ≤ q → q < b → d p < d q) (ham : a < m) (hmb : m < b) {mid low up : Nat} (hm : mid = (a + b) / 2)
    (hlu : (mid < m ∧ low = mid + m - b ∧ up = mid) ∨ (m ≤ mid ∧ low = a ∧ up = m)) (h1 : low ≤ s) (h2 : s ≤ up)
    (hT : s = low ∨ ¬ key (d (s - 1)) < key (d (mid + m - s))) (hF : s = up ∨ key (d s) < key (d (mid + m - 1 - s))) : Cut key a m b s (mid + m - s) d := by
  refine ⟨by omega, by omega, by omega, by omega, hl, hr, ht, fun p q g1 g2 g3 g4 => ?_, fun p q g1 g2 g3 g4 => ?_⟩
  · rcases hT with hT | hT
    · omega
    · have hb : bef key (d (s - 1)) (d (mid + m - s)) := bef_tag hT (ht _ _ (by omega) (by omega) (by omega) (by omega))
      exact hl.le (i := p) (j := s - 1) g1 (by omega) (by omega) (hr.ge (i := mid + m - s) (j := q) (by omega) g3 g4 hb)
  · rcases hF with hF | hF
    · omega
    · have hb : bef key (d (mid + m - 1 - s)) (d s) := bef_lt hF
      exact hr.le (i := q) (j := mid + m - 1 - s) g3 (by omega) (by omega) (hl.ge (i := s) (j := p) (by omega) g1 g2 hb)
end
end Go.Proofs.Ytnigoojjbljibaa
