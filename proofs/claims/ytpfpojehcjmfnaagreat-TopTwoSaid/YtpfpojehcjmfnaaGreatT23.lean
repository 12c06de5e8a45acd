/-
  slices.IndexFunc over members; where a unit stands.
  Conditions: the predicate, whatever the world, answers so, and leaves all that was.
-/
import Derived.Test.YtpfpojehcjmfnaaGreatT01
import Derived.Test.YtpfpojehcjmfnaaGreatT05
import Derived.Test.YtpfpojehcjmfnaaGreatT02
import Derived.Test.YtpfpojehcjmfnaaGreatT14
import Derived.Maps.AppendAt
import Derived.WalkSpells
import Derived.Lib.SliceRun
import Derived.BigRegion
import Derived.Deep.Cut
import Derived.Deep.CutRange
import Derived.Shelf.RegionOpenPlain

/-
  An argument that is a slice of wants, of whatever length; its first ones.
  Conditions: none.
-/
set_option linter.unusedVariables false
namespace Go.Proofs.YtpfpojehcjmfnaaGreat
open Go.RowKit

/-- An argument: it may be of any length. -/
def ArgAt (W : World) (v : Value) (ps : List Sp) : Prop :=
  ∃ A c, v = .slice A ps.length c ∧ ps.length ≤ c ∧ c ≤ 9223372036854775807 ∧ (A = none → c = 0) ∧
    (0 < ps.length → ∃ b off, A = some ⟨b, off, none⟩ ∧ b < W.heap.size ∧ ∀ (j : Nat) (p : Sp), ps[j]? = some p → PairAt W b (off + j * 2) p)
/-- Its first ones. -/
theorem ArgAt.cut {W : World} {A : Option Addr} {n c : Nat} {ps : List Sp} (h : ArgAt W (.slice A n c) ps) (N : Nat) (hN : N ≤ 2000000) : SpansAt W (.slice A (min n N) c) (ps.take N) := by
  obtain ⟨A', c', h1, h2, h3, h4, h5⟩ := h
  injection h1 with e1 e2 e3
  subst e1 e2 e3
  have hl : (ps.take N).length = min ps.length N := by rw [List.length_take, Nat.min_comm]
  have hmin : min ps.length N ≤ ps.length := Nat.min_le_left _ _
  have hmin2 : min ps.length N ≤ N := Nat.min_le_right _ _
  refine ⟨A, c, by rw [hl], by omega, by omega, h3, fun hn => ?_⟩
  obtain ⟨b, off, e, hlt, hc⟩ := h5 (by omega)
  refine ⟨b, off, e, hlt, fun j p hj => hc j p ?_⟩
  rw [List.getElem?_take] at hj
  split at hj
  · exact hj
  · cases hj
end Go.Proofs.YtpfpojehcjmfnaaGreat

/-
  Locals as lists: who is next, a pick, a frame's begin, a unit dropped; guarantee, exactness, proportion.
  Conditions: none.
-/
set_option linter.unusedVariables false
namespace Go.Proofs.YtpfpojehcjmfnaaGreat

/-- A member: its unit, its share, what it got. -/
structure Lm where
  u : Nat
  s : Nat
  g : Nat

/-- Is it ahead of the one found so far? -/
def takesL (m : Lm) : Option (Nat × Lm) → Bool
  | none => true
  | some b => decide ((m.g + 1) * b.2.s < (b.2.g + 1) * m.s)
def stepN (off : Nat → Bool) (k : Nat) (m : Lm) (b : Option (Nat × Lm)) : Option (Nat × Lm) := if off m.u = true then b else if takesL m b = true then some (k, m) else b
def nextGo (off : Nat → Bool) : Nat → Option (Nat × Lm) → List Lm → Option (Nat × Lm)
  | _, b, [] => b
  | k, b, m :: l => nextGo off (k + 1) (stepN off k m b) l
def nextT (off : Nat → Bool) (l : List Lm) : Option (Nat × Lm) := nextGo off 0 none l
def more (x : Lm) : Lm := { x with g := x.g + 1 }
def pickO (l : List Lm) : Option (Nat × Lm) → List Lm
  | none => l
  | some b => l.set b.1 (more b.2)
def pickT (off : Nat → Bool) (l : List Lm) : List Lm := pickO l (nextT off l)
def unitO : Option (Nat × Lm) → Nat
  | none => 0
  | some b => b.2.u
def beginT (l : List Lm) : List Lm := l.map fun m => { m with g := 0 }
def wantsM (l : List Lm) : List Sp := l.map fun m => ((m.u : Int), (m.s : Int))
def sumG : List Lm → Nat
  | [] => 0
  | m :: l => m.g + sumG l
def sumM : List Lm → Nat
  | [] => 0
  | m :: l => m.s + sumM l

theorem drop_ofL {α : Type} {l : List α} {i : Nat} {y : α} (h : l[i]? = some y) : l.drop i = y :: l.drop (i + 1) := by
  obtain ⟨h1, h2⟩ := List.getElem?_eq_some_iff.1 h
  rw [List.drop_eq_getElem_cons h1, h2]
theorem next_step {off : Nat → Bool} {l : List Lm} {k : Nat} {m : Lm} {b R : Option (Nat × Lm)} (h : l[k]? = some m) (hR : nextGo off k b (l.drop k) = R) : nextGo off (k + 1) (stepN off k m b) (l.drop (k + 1)) = R := by
  rw [drop_ofL h] at hR
  exact hR
theorem step_off {off : Nat → Bool} {k : Nat} {m : Lm} {b : Option (Nat × Lm)} (h : off m.u = true) : stepN off k m b = b := by unfold stepN; rw [if_pos h]
theorem step_takes {off : Nat → Bool} {k : Nat} {m : Lm} {b : Option (Nat × Lm)} (h : off m.u = false) (ht : takesL m b = true) : stepN off k m b = some (k, m) := by
  unfold stepN
  rw [if_neg (by rw [h]; decide), if_pos ht]
theorem step_stays {off : Nat → Bool} {k : Nat} {m : Lm} {b : Option (Nat × Lm)} (h : off m.u = false) (ht : takesL m b = false) : stepN off k m b = b := by
  unfold stepN
  rw [if_neg (by rw [h]; decide), if_neg (by rw [ht]; decide)]

/-- None of those that are not off is ahead of it. -/
structure Best (off : Nat → Bool) (l : List Lm) (k : Nat) (x : Lm) : Prop where
  at_ : l[k]? = some x
  on : off x.u = false
  least : ∀ (j : Nat) (m : Lm), l[j]? = some m → off m.u = false → (x.g + 1) * m.s ≤ (m.g + 1) * x.s
def SoFar (off : Nat → Bool) (l : List Lm) (k : Nat) : Option (Nat × Lm) → Prop
  | none => ∀ (j : Nat) (m : Lm), j < k → l[j]? = some m → off m.u = true
  | some b => l[b.1]? = some b.2 ∧ off b.2.u = false ∧ ∀ (j : Nat) (m : Lm), j < k → l[j]? = some m → off m.u = false → (b.2.g + 1) * m.s ≤ (m.g + 1) * b.2.s
theorem frac_le {a b c d e f : Nat} (hd : 0 < d) (h1 : a * d ≤ c * b) (h2 : c * f ≤ e * d) : a * f ≤ e * b := by
  refine Nat.le_of_mul_le_mul_right (c := d) ?_ hd
  have k1 := Nat.mul_le_mul_right f h1
  have k2 := Nat.mul_le_mul_right b h2
  rw [Nat.mul_right_comm a f d, Nat.mul_right_comm e b d]
  rw [Nat.mul_right_comm c f b] at k2
  exact Nat.le_trans k1 k2
theorem so_step {off : Nat → Bool} {l : List Lm} {k : Nat} {m : Lm} {b : Option (Nat × Lm)} (hp : ∀ m ∈ l, 0 < m.s) (h : SoFar off l k b) (hk : l[k]? = some m) : SoFar off l (k + 1) (stepN off k m b) := by
  cases ho : off m.u with
  | true =>
    rw [step_off ho]
    cases b with
    | none =>
      intro j x hj hx
      by_cases e : j = k
      · subst e; rw [hk] at hx; rw [← Option.some.inj hx]; exact ho
      · exact h j x (by omega) hx
    | some b =>
      refine ⟨h.1, h.2.1, fun j x hj hx hxo => ?_⟩
      by_cases e : j = k
      · subst e; rw [hk] at hx; rw [← Option.some.inj hx, ho] at hxo; cases hxo
      · exact h.2.2 j x (by omega) hx hxo
  | false =>
    cases b with
    | none =>
      rw [step_takes ho rfl]
      refine ⟨hk, ho, fun j x hj hx hxo => ?_⟩
      by_cases e : j = k
      · subst e
        rw [hk] at hx
        have hx' : m = x := Option.some.inj hx
        show (m.g + 1) * x.s ≤ (x.g + 1) * m.s
        rw [hx']
        exact Nat.le_refl _
      · have := h j x (by omega) hx
        rw [hxo] at this
        cases this
    | some b =>
      obtain ⟨h1, h2, h3⟩ := h
      cases ht : takesL m (some b) with
      | true =>
        rw [step_takes ho ht]
        have hlt : (m.g + 1) * b.2.s < (b.2.g + 1) * m.s := by simpa [takesL] using ht
        refine ⟨hk, ho, fun j x hj hx hxo => ?_⟩
        by_cases e : j = k
        · subst e
          rw [hk] at hx
          have hx' : m = x := Option.some.inj hx
          show (m.g + 1) * x.s ≤ (x.g + 1) * m.s
          rw [hx']
          exact Nat.le_refl _
        · exact frac_le (hp b.2 (List.mem_of_getElem? h1)) (Nat.le_of_lt hlt) (h3 j x (by omega) hx hxo)
      | false =>
        rw [step_stays ho ht]
        have hge : ¬ (m.g + 1) * b.2.s < (b.2.g + 1) * m.s := by simpa [takesL] using ht
        refine ⟨h1, h2, fun j x hj hx hxo => ?_⟩
        by_cases e : j = k
        · subst e
          rw [hk] at hx
          rw [← Option.some.inj hx]
          exact Nat.not_lt.1 hge
        · exact h3 j x (by omega) hx hxo
theorem so_go {off : Nat → Bool} {l : List Lm} (hp : ∀ m ∈ l, 0 < m.s) : ∀ (n k : Nat) (b : Option (Nat × Lm)), l.length = n + k → SoFar off l k b → SoFar off l l.length (nextGo off k b (l.drop k))
  | 0, k, b, hn, h => by
    rw [List.drop_of_length_le (by omega), hn, Nat.zero_add]
    exact h
  | n + 1, k, b, hn, h => by
    have hk : l[k]? = some (l[k]'(by omega)) := List.getElem?_eq_getElem (by omega)
    rw [drop_ofL hk]
    exact so_go hp n (k + 1) _ (by omega) (so_step hp h hk)
theorem so_all {off : Nat → Bool} {l : List Lm} (hp : ∀ m ∈ l, 0 < m.s) : SoFar off l l.length (nextT off l) := by
  have := so_go (off := off) hp l.length 0 none (by omega) (fun j m hj => absurd hj (Nat.not_lt_zero _))
  rwa [List.drop_zero] at this
theorem next_none {off : Nat → Bool} {l : List Lm} (hp : ∀ m ∈ l, 0 < m.s) (h : nextT off l = none) : ∀ m ∈ l, off m.u = true := by
  intro m hm
  have ha := so_all (off := off) hp
  rw [h] at ha
  obtain ⟨j, hj, e⟩ := List.getElem_of_mem hm
  exact ha j m hj (by rw [List.getElem?_eq_getElem hj, e])
theorem next_some {off : Nat → Bool} {l : List Lm} (hp : ∀ m ∈ l, 0 < m.s) {k : Nat} {x : Lm} (h : nextT off l = some (k, x)) : Best off l k x := by
  have ha := so_all (off := off) hp
  rw [h] at ha
  exact ⟨ha.1, ha.2.1, fun j m hj => ha.2.2 j m (List.getElem?_eq_some_iff.1 hj).1 hj⟩
theorem next_on {l : List Lm} (hp : ∀ m ∈ l, 0 < m.s) (hl : 0 < l.length) : ∃ k x, nextT (fun _ => false) l = some (k, x) := by
  cases h : nextT (fun _ => false) l with
  | none =>
    have := next_none hp h (l[0]'hl) (List.getElem_mem _)
    cases this
  | some b => exact ⟨b.1, b.2, rfl⟩

theorem sumG_more : ∀ {l : List Lm} {k : Nat} {x : Lm}, l[k]? = some x → sumG (l.set k (more x)) = sumG l + 1
  | [], k, x, h => by simp at h
  | y :: l, 0, x, h => by
    simp at h
    subst h
    show y.g + 1 + sumG l = y.g + sumG l + 1
    omega
  | y :: l, k + 1, x, h => by
    have := sumG_more (l := l) (k := k) (x := x) (by simpa using h)
    show y.g + sumG (l.set k (more x)) = y.g + sumG l + 1
    omega
theorem sumS_more : ∀ {l : List Lm} {k : Nat} {x : Lm}, l[k]? = some x → sumM (l.set k (more x)) = sumM l
  | [], k, x, h => by simp at h
  | y :: l, 0, x, h => by
    simp at h
    subst h
    rfl
  | y :: l, k + 1, x, h => by
    have := sumS_more (l := l) (k := k) (x := x) (by simpa using h)
    show y.s + sumM (l.set k (more x)) = y.s + sumM l
    omega
theorem sum_le : ∀ {l : List Lm}, (∀ m ∈ l, m.g ≤ m.s) → sumG l ≤ sumM l
  | [], _ => Nat.le_refl _
  | m :: l, h => by
    have h1 := h m List.mem_cons_self
    have h2 := sum_le (l := l) fun x hx => h x (List.mem_cons_of_mem _ hx)
    show m.g + sumG l ≤ m.s + sumM l
    omega
theorem sum_eq : ∀ {l : List Lm}, (∀ m ∈ l, m.g ≤ m.s) → sumM l ≤ sumG l → ∀ m ∈ l, m.g = m.s
  | [], _, _, m, hm => by cases hm
  | x :: l, h, he, m, hm => by
    have h1 := h x List.mem_cons_self
    have h2 := sum_le (l := l) fun y hy => h y (List.mem_cons_of_mem _ hy)
    have he' : x.s + sumM l ≤ x.g + sumG l := he
    rcases List.mem_cons.1 hm with rfl | hm
    · omega
    · exact sum_eq (l := l) (fun y hy => h y (List.mem_cons_of_mem _ hy)) (by omega) m hm
theorem sum_lt : ∀ {l : List Lm}, sumG l < sumM l → ∃ m ∈ l, m.g < m.s
  | [], h => absurd h (Nat.lt_irrefl _)
  | x :: l, h => by
    have h' : x.g + sumG l < x.s + sumM l := h
    by_cases e : x.g < x.s
    · exact ⟨x, List.mem_cons_self, e⟩
    · obtain ⟨m, h1, h2⟩ := sum_lt (l := l) (by omega)
      exact ⟨m, List.mem_cons_of_mem _ h1, h2⟩
theorem s_le : ∀ {l : List Lm} {m : Lm}, m ∈ l → m.s ≤ sumM l
  | x :: l, m, h => by
    show m.s ≤ x.s + sumM l
    rcases List.mem_cons.1 h with rfl | h
    · omega
    · have := s_le h
      omega
theorem len_le : ∀ {l : List Lm}, (∀ m ∈ l, 0 < m.s) → l.length ≤ sumM l
  | [], _ => Nat.le_refl _
  | m :: l, h => by
    have h1 := h m List.mem_cons_self
    have h2 := len_le (l := l) fun y hy => h y (List.mem_cons_of_mem _ hy)
    show l.length + 1 ≤ m.s + sumM l
    omega

structure OkL (G : Nat) (l : List Lm) : Prop where
  rise : l.Pairwise fun a b => a.u < b.u
  unit : ∀ m ∈ l, 1 ≤ m.u ∧ m.u ≤ 1040
  share : ∀ m ∈ l, 0 < m.s
  full : sumM l ≤ 64
  got : ∀ m ∈ l, m.g ≤ G
theorem OkL.len {G : Nat} {l : List Lm} (h : OkL G l) : l.length ≤ 64 := Nat.le_trans (len_le h.share) h.full
theorem OkL.s64 {G : Nat} {l : List Lm} (h : OkL G l) {m : Lm} (hm : m ∈ l) : m.s ≤ 64 := Nat.le_trans (s_le hm) h.full
theorem OkL.mono {G G' : Nat} {l : List Lm} (h : OkL G l) (hG : G ≤ G') : OkL G' l := ⟨h.rise, h.unit, h.share, h.full, fun m hm => Nat.le_trans (h.got m hm) hG⟩
theorem mem_set {l : List Lm} {k : Nat} {x y m : Lm} (hk : l[k]? = some x) (hm : m ∈ l.set k y) : m ∈ l ∨ m = y := by
  rcases List.mem_or_eq_of_mem_set hm with h | h
  · exact .inl h
  · exact .inr h
theorem rise_set : ∀ {l : List Lm} {k : Nat} {x y : Lm}, l[k]? = some x → y.u = x.u → l.Pairwise (fun a b => a.u < b.u) → (l.set k y).Pairwise (fun a b => a.u < b.u)
  | [], k, x, y, h, _, _ => by simp at h
  | z :: l, 0, x, y, h, e, hp => by
    simp at h
    subst h
    obtain ⟨p1, p2⟩ := List.pairwise_cons.1 hp
    exact List.pairwise_cons.2 ⟨fun b hb => by rw [e]; exact p1 b hb, p2⟩
  | z :: l, k + 1, x, y, h, e, hp => by
    obtain ⟨p1, p2⟩ := List.pairwise_cons.1 hp
    have h' : l[k]? = some x := by simpa using h
    refine List.pairwise_cons.2 ⟨fun b hb => ?_, rise_set h' e p2⟩
    rcases mem_set h' hb with hb | rfl
    · exact p1 b hb
    · rw [e]; exact p1 x (List.mem_of_getElem? h')
theorem OkL.pick {G : Nat} {l : List Lm} (h : OkL G l) (off : Nat → Bool) : OkL (G + 1) (pickT off l) := by
  unfold pickT
  cases hn : nextT off l with
  | none => exact h.mono (Nat.le_succ _)
  | some b =>
    have hb := (next_some h.share hn).at_
    have hm := List.mem_of_getElem? hb
    refine ⟨rise_set hb rfl h.rise, fun m hx => ?_, fun m hx => ?_, ?_, fun m hx => ?_⟩
    · rcases mem_set hb hx with hx | rfl
      · exact h.unit m hx
      · exact h.unit b.2 hm
    · rcases mem_set hb hx with hx | rfl
      · exact h.share m hx
      · exact h.share b.2 hm
    · show sumM (l.set b.1 (more b.2)) ≤ 64
      rw [sumS_more hb]
      exact h.full
    · rcases mem_set hb hx with hx | rfl
      · exact Nat.le_succ_of_le (h.got m hx)
      · exact Nat.succ_le_succ (h.got b.2 hm)
theorem sumS_begin : ∀ l : List Lm, sumM (beginT l) = sumM l
  | [] => rfl
  | m :: l => by show m.s + sumM (beginT l) = m.s + sumM l; rw [sumS_begin l]
theorem sumG_begin : ∀ l : List Lm, sumG (beginT l) = 0
  | [] => rfl
  | m :: l => by show 0 + sumG (beginT l) = 0; rw [sumG_begin l]
theorem begin_g {l : List Lm} {m : Lm} (h : m ∈ beginT l) : m.g = 0 := by
  obtain ⟨x, _, rfl⟩ := List.mem_map.1 h
  rfl
def findT (u : Int) (l : List Lm) : Option Nat := l.findIdx? fun m => decide ((m.u : Int) = u)
theorem find_some {u : Int} {l : List Lm} {k : Nat} (h : findT u l = some k) : ∃ m, l[k]? = some m ∧ (m.u : Int) = u := by
  obtain ⟨h1, h2, _⟩ := List.findIdx?_eq_some_iff_getElem.1 h
  exact ⟨_, List.getElem?_eq_getElem h1, by simpa using h2⟩
theorem find_at {l : List Lm} (h : l.Pairwise fun a b => a.u < b.u) {i : Nat} {x : Lm} (hi : l[i]? = some x) : findT (x.u : Int) l = some i := by
  obtain ⟨i1, i2⟩ := List.getElem?_eq_some_iff.1 hi
  refine List.findIdx?_eq_some_iff_getElem.2 ⟨i1, by rw [i2]; simp, fun j hj => ?_⟩
  have hj1 : j < l.length := by omega
  have := List.pairwise_iff_getElem.1 h j i hj1 i1 hj
  rw [i2] at this
  simp
  omega
def Even (t : Nat) (l : List Lm) : Prop := sumG l = t ∧ ∀ m ∈ l, m.g ≤ m.s
theorem even_begin (l : List Lm) : Even 0 (beginT l) := ⟨sumG_begin l, fun x hx => by rw [begin_g hx]; exact Nat.zero_le _⟩
theorem even_pick {t : Nat} {l : List Lm} (hp : ∀ m ∈ l, 0 < m.s) (h : Even t l) (ht : t < sumM l) : ∃ k x, nextT (fun _ => false) l = some (k, x) ∧ Even (t + 1) (pickT (fun _ => false) l) := by
  obtain ⟨h1, h2⟩ := h
  obtain ⟨m, hm, hlt⟩ := sum_lt (l := l) (by omega)
  obtain ⟨k, x, hn⟩ := next_on hp (List.length_pos_of_mem hm)
  have hb := next_some hp hn
  refine ⟨k, x, hn, ?_⟩
  unfold pickT
  rw [hn]
  refine ⟨by show sumG (l.set k (more x)) = _; rw [sumG_more hb.at_, h1], fun y hy => ?_⟩
  rcases mem_set hb.at_ hy with hy | rfl
  · exact h2 y hy
  · obtain ⟨j, hj, e⟩ := List.getElem_of_mem hm
    have hl := hb.least j m (by rw [List.getElem?_eq_getElem hj, e]) rfl
    show x.g + 1 ≤ x.s
    refine Nat.le_of_mul_le_mul_right (c := m.s) (Nat.le_trans hl ?_) (hp m hm)
    rw [Nat.mul_comm x.s]
    exact Nat.mul_le_mul_right _ (by omega)
theorem even_end {t : Nat} {l : List Lm} (h : Even t l) (ht : sumM l ≤ t) : ∀ m ∈ l, m.g = m.s := sum_eq h.2 (by rw [h.1]; exact ht)

end Go.Proofs.YtpfpojehcjmfnaaGreat

/-
  Members of a local in memory: a row of them of its own; a local in a block; what a call leaves alone.
  Conditions: none.
-/
set_option linter.unusedVariables false
namespace Go.Proofs.YtpfpojehcjmfnaaGreat
open Go.RowKit

theorem Tryz.infoMb : (Tryz.prog.info? 100).map (fun i => (i.zero, i.size, i.bytes)) = some (some (.agg #[.int .i64 0, .int .i64 0, .int .i64 0]), 3, 24) := by kernel_rfl
def mbCells (m : Lm) : List Value := [.int .i64 m.u, .int .i64 m.s, .int .i64 m.g]
def mbA (m : Lm) : Value := .agg #[.int .i64 m.u, .int .i64 m.s, .int .i64 m.g]
def rowC (l : List Lm) : List Value := l.flatMap mbCells
theorem rowC_cons (m : Lm) (l : List Lm) : rowC (m :: l) = .int .i64 m.u :: .int .i64 m.s :: .int .i64 m.g :: rowC l := by simp [rowC, mbCells]
theorem rowC_append (l k : List Lm) : rowC (l ++ k) = rowC l ++ rowC k := by simp [rowC]
theorem rowC_length : ∀ (l : List Lm), (rowC l).length = l.length * 3
  | [] => rfl
  | m :: l => by rw [rowC_cons]; simp [rowC_length l]; omega
theorem rowC_get : ∀ (l : List Lm) (j : Nat) (m : Lm), l[j]? = some m → (rowC l)[j * 3]? = some (.int .i64 m.u) ∧ (rowC l)[j * 3 + 1]? = some (.int .i64 m.s) ∧ (rowC l)[j * 3 + 2]? = some (.int .i64 m.g)
  | [], j, m, h => by simp at h
  | x :: l, 0, m, h => by
    simp at h
    subst h
    exact ⟨rfl, rfl, rfl⟩
  | x :: l, j + 1, m, h => by
    have ih := rowC_get l j m (by simpa using h)
    rw [rowC_cons, show (j + 1) * 3 = j * 3 + 1 + 1 + 1 by omega]
    simpa using ih
theorem rowC_one (l : List Lm) : ∀ u ∈ rowC l, u.oneCell' = true := by
  intro u hu
  obtain ⟨m, _, hm⟩ := List.mem_flatMap.1 hu
  simp [mbCells] at hm
  rcases hm with rfl | rfl | rfl <;> rfl
theorem rowC_take : ∀ (l : List Lm) (i : Nat), (rowC l).take (i * 3) = rowC (l.take i)
  | [], i => by simp [rowC]
  | m :: l, 0 => by simp [rowC]
  | m :: l, i + 1 => by
    rw [rowC_cons, show (i + 1) * 3 = i * 3 + 1 + 1 + 1 by omega, List.take_succ_cons, List.take_succ_cons, List.take_succ_cons, rowC_take l i, List.take_succ_cons, rowC_cons]
theorem rowC_drop : ∀ (l : List Lm) (i : Nat), (rowC l).drop (i * 3) = rowC (l.drop i)
  | [], i => by simp [rowC]
  | m :: l, 0 => by simp [rowC]
  | m :: l, i + 1 => by
    rw [rowC_cons, show (i + 1) * 3 = i * 3 + 1 + 1 + 1 by omega, List.drop_succ_cons, List.drop_succ_cons, List.drop_succ_cons, rowC_drop l i, List.drop_succ_cons]
theorem rowC_set : ∀ (l : List Lm) (j : Nat) (m x : Lm), l[j]? = some m → (((rowC l).set (j * 3) (.int .i64 x.u)).set (j * 3 + 1) (.int .i64 x.s)).set (j * 3 + 2) (.int .i64 x.g) = rowC (l.set j x)
  | [], j, m, x, h => by simp at h
  | y :: l, 0, m, x, h => by
    rw [List.set_cons_zero, rowC_cons, rowC_cons]
    rfl
  | y :: l, j + 1, m, x, h => by
    rw [rowC_cons, List.set_cons_succ, rowC_cons, ← rowC_set l j m x (by simpa using h), show (j + 1) * 3 = j * 3 + 1 + 1 + 1 by omega]
    rfl
theorem set_self {α : Type} {l : List α} {k : Nat} {x : α} (h : l[k]? = some x) : l.set k x = l := by
  apply List.ext_getElem?
  intro i
  rw [List.getElem?_set]
  split
  · rename_i e
    subst e
    rw [if_pos (List.getElem?_eq_some_iff.1 h).1, h]
  · rfl
/-- What it got is written anew. -/
theorem rowC_setG (l : List Lm) (j : Nat) (m : Lm) (h : l[j]? = some m) (x : Nat) : (rowC l).set (j * 3 + 2) (.int .i64 x) = rowC (l.set j { m with g := x }) := by
  obtain ⟨c0, c1, c2⟩ := rowC_get l j m h
  rw [← rowC_set l j m _ h, set_self c0, set_self c1]

/-- A member lies at an address. -/
def MbAt (W : World) (b o : Nat) (m : Lm) : Prop :=
  W.cell? ⟨b, o, none⟩ = some (.int .i64 m.u) ∧ W.cell? ⟨b, o + 1, none⟩ = some (.int .i64 m.s) ∧ W.cell? ⟨b, o + 2, none⟩ = some (.int .i64 m.g)
/-- A row of members of the local's own. -/
abbrev RowM (W : World) (v : Value) (l : List Lm) : Prop := W.ownsRow 0 100 3 v l.length (rowC l)
theorem own3_lies {W : World} {base e : Nat} {v : Value} {l : List Lm} (h : W.ownsRow base e 3 v l.length (rowC l)) (hp : 0 < l.length) :
    ∃ g cap, v = .slice (some ⟨g, 0, none⟩) l.length cap ∧ base ≤ g ∧ g < W.heap.size ∧ l.length ≤ cap ∧ cap ≤ maxLen ∧ (∀ j m, l[j]? = some m → MbAt W g (j * 3) m) ∧ ∀ j, W.frozen? ⟨g, j, none⟩ = false := by
  obtain ⟨h1, h2⟩ := h
  rcases h2 with ⟨rfl, h0⟩ | ⟨g, cap, cur, rfl, hg, hh, hn, hc, hs, ht⟩
  · omega
  · refine ⟨g, cap, rfl, hg, heap_lt hh, hn, hc, fun j m hj => ?_, fun j => by simp [World.frozen?, hh]⟩
    have hjl : j < l.length := (List.getElem?_eq_some_iff.1 hj).1
    obtain ⟨g0, g1, g2⟩ := rowC_get l j m hj
    have key : ∀ (i : Nat) (u : Value), i < l.length * 3 → (rowC l)[i]? = some u → W.cell? ⟨g, i, none⟩ = some u := by
      intro i u hi hu
      rw [cell_of_row W g i _ _ (0, 0) hh, ← hu, ← ht, List.getElem?_take, if_pos hi]
      simp
    exact ⟨key _ _ (by omega) g0, key _ _ (by omega) g1, key _ _ (by omega) g2⟩
/-- A cell of a row of a call's own is stored into. -/
theorem ownK_set {W : World} {base e sz n g cap k : Nat} {xs : List Value} (h : W.ownsRow base e sz (.slice (some ⟨g, 0, none⟩) n cap) n xs) (u : Value) :
    (W.setCell ⟨g, k, none⟩ u).ownsRow base e sz (.slice (some ⟨g, 0, none⟩) n cap) n (xs.set k u) := by
  obtain ⟨h1, h2⟩ := h
  refine ⟨by rw [List.length_set]; exact h1, ?_⟩
  rcases h2 with ⟨h0, _⟩ | ⟨g', cap', cur, hv, hg, hh, hn, hc, hs, ht⟩
  · cases h0
  · injection hv with e1 e2 e3
    injection e1 with e1
    injection e1 with e1
    subst e1 e3
    refine .inr ⟨g, cap, cur.setIfInBounds k u, rfl, hg, heap_setCell_mem _ _ _ _ _ _ _ hh, hn, hc, by simpa using hs, ?_⟩
    rw [← ht, Array.toList_setIfInBounds, List.take_set]
theorem MbAt.keep {W W' : World} {b o : Nat} {m : Lm} (h : MbAt W b o m) (hk : W'.heap[b]? = W.heap[b]?) : MbAt W' b o m :=
  have e := fun o => cell_same (W := W) (W' := W') hk o
  ⟨(e _).trans h.1, (e _).trans h.2.1, (e _).trans h.2.2⟩

/-- A local in memory. -/
structure LocAt (W : World) (rb : Nat) (mv : Value) (l : List Lm) : Prop where
  head : W.heap[rb]? = some (.cells #[mv] 105 (0, 0))
  row : RowM W mv l
  ne : mv.ownBlock ≠ some rb
/-- Its blocks. -/
def Foot (rb : Nat) (mv : Value) : Nat → Prop := fun k => k = rb ∨ mv.ownBlock = some k
theorem LocAt.lt {W : World} {rb : Nat} {mv : Value} {l : List Lm} (h : LocAt W rb mv l) : rb < W.heap.size := heap_lt h.head
theorem LocAt.foot {W : World} {rb : Nat} {mv : Value} {l : List Lm} (h : LocAt W rb mv l) {k : Nat} (hk : Foot rb mv k) : k < W.heap.size := by
  rcases hk with rfl | hk
  · exact h.lt
  · exact own_lt h.row hk
theorem LocAt.keep {W W' : World} {rb : Nat} {mv : Value} {l : List Lm} (h : LocAt W rb mv l) (hk : ∀ k, Foot rb mv k → W'.heap[k]? = W.heap[k]?) : LocAt W' rb mv l :=
  ⟨(hk rb (.inl rfl)).trans h.head, own_keep h.row fun k e => hk k (.inr e), h.ne⟩
theorem LocAt.below {W W' : World} {rb : Nat} {mv : Value} {l : List Lm} (h : LocAt W rb mv l) (hb : Below W.heap.size W W') : LocAt W' rb mv l := h.keep fun k hk => hb.block k (h.foot hk)
theorem LocAt.form {W : World} {rb : Nat} {mv : Value} {l : List Lm} (h : LocAt W rb mv l) : ∃ A c, mv = .slice A l.length c := own_form h.row
/-- What the walk wants of the head. -/
theorem LocAt.heads {W : World} {rb : Nat} {mv : Value} {l : List Lm} (h : LocAt W rb mv l) : W.cell? ⟨rb, 0, none⟩ = some mv ∧ W.frozen? ⟨rb, 0, none⟩ = false := by
  have e := h.head
  refine ⟨?_, ?_⟩ <;> simp [World.cell?, World.frozen?, e]
/-- A member of it: where it lies. -/
theorem LocAt.at_ {W : World} {rb : Nat} {mv : Value} {l : List Lm} (h : LocAt W rb mv l) {k : Nat} {m : Lm} (hk : l[k]? = some m) :
    ∃ g cap, mv = .slice (some ⟨g, 0, none⟩) l.length cap ∧ g < W.heap.size ∧ g ≠ rb ∧ l.length ≤ cap ∧ cap ≤ maxLen ∧ MbAt W g (k * 3) m ∧ ∀ j, W.frozen? ⟨g, j, none⟩ = false := by
  have hn := h.ne
  obtain ⟨g, cap, rfl, _, h2, h3, h4, h5, h6⟩ := own3_lies h.row (by have := (List.getElem?_eq_some_iff.1 hk).1; omega)
  exact ⟨g, cap, rfl, h2, fun e => hn (by rw [e]; rfl), h3, h4, h5 k m hk, h6⟩
/-- What a member got is written anew. -/
theorem LocAt.setG {W : World} {rb g n cap k : Nat} {l : List Lm} (h : LocAt W rb (.slice (some ⟨g, 0, none⟩) n cap) l) {m : Lm} (hk : l[k]? = some m) (x : Nat) :
    LocAt (W.setCell ⟨g, k * 3 + 2, none⟩ (.int .i64 x)) rb (.slice (some ⟨g, 0, none⟩) n cap) (l.set k { m with g := x }) := by
  obtain ⟨A, c, hv⟩ := h.form
  injection hv with _ hn _
  subst hn
  refine ⟨(Below.heap_setCell _ _ _ _ (fun e => h.ne (by rw [e]; rfl))).trans h.head, ?_, h.ne⟩
  have := ownK_set (k := k * 3 + 2) h.row (.int .i64 x)
  rw [rowC_setG l k m hk] at this
  show World.ownsRow _ _ _ _ _ (l.set k { m with g := x }).length _
  rw [List.length_set]
  exact this

theorem Grew.refl (w : World) (mv : Value) : Grew w mv mv := fun k hk => .inl hk
/-- What a call of a local answers, and what it makes of the local. -/
def MutPost (W : World) (rb : Nat) (mv : Value) (v : Value) (l' : List Lm) (e : Ending) (w' : World) : Prop :=
  ∃ mv', e = .returned v ∧ LocAt w' rb mv' l' ∧ Apart (Foot rb mv) W w' ∧ Grew W mv mv'
theorem mut_below {W w' : World} {rb : Nat} {mv v : Value} {l : List Lm} (h : LocAt W rb mv l) (hb : Below W.heap.size W w') {e : Ending} (he : e = .returned v) : MutPost W rb mv v l e w' :=
  ⟨mv, he, h.below hb, Apart.of_below hb, Grew.refl _ _⟩

/-- A local of a call's own: all its blocks are at base or above. -/
def Held (base : Nat) (W : World) (rb : Nat) (l : List Lm) : Prop := ∃ mv, LocAt W rb mv l ∧ ∀ k, Foot rb mv k → base ≤ k
theorem Held.below {base : Nat} {W W' : World} {rb : Nat} {l : List Lm} (h : Held base W rb l) (hb : Below W.heap.size W W') : Held base W' rb l := by
  obtain ⟨mv, h1, h2⟩ := h
  exact ⟨mv, h1.below hb, h2⟩
/-- What a call made of it. -/
theorem Held.mut {base : Nat} {W w' : World} {rb : Nat} {l l' : List Lm} {mv v : Value} {e : Ending} (hb : base ≤ W.heap.size) (hl : ∀ k, Foot rb mv k → base ≤ k) (h : MutPost W rb mv v l' e w') :
    e = .returned v ∧ Held base w' rb l' ∧ Below base W w' := by
  obtain ⟨mv', he, hat, hap, hg⟩ := h
  refine ⟨he, ⟨mv', hat, fun k hk => ?_⟩, hap.below hb fun k hk hf => absurd (hl k hf) (by omega)⟩
  rcases hk with rfl | hk
  · exact hl k (.inl rfl)
  · rcases hg k hk with hk | hk
    · exact hl k (.inr hk)
    · omega
end Go.Proofs.YtpfpojehcjmfnaaGreat

/-
  What New makes of wants: members by rising units; what right wants are.
  Conditions: none.
-/
set_option linter.unusedVariables false
namespace Go.Proofs.YtpfpojehcjmfnaaGreat

def mkL (p : Sp) : Lm := ⟨p.1.toNat, p.2.toNat, 0⟩
def insU (w : Lm) : List Lm → List Lm
  | [] => [w]
  | x :: r => if x.u < w.u then x :: insU w r else w :: x :: r
def newT (ps : List Sp) : List Lm := ps.foldl (fun s p => insU (mkL p) s) []
theorem insU_perm (w : Lm) : ∀ l : List Lm, (insU w l).Perm (w :: l)
  | [] => List.Perm.refl _
  | x :: r => by
    unfold insU
    split
    · exact ((insU_perm w r).cons x).trans (List.Perm.swap w x r)
    · exact List.Perm.refl _
def RiseS (l : List Lm) : Prop := l.Pairwise fun a b => a.u ≤ b.u
theorem insU_rise (w : Lm) : ∀ {l : List Lm}, RiseS l → RiseS (insU w l)
  | [], _ => List.pairwise_singleton _ _
  | x :: r, h => by
    obtain ⟨h1, h2⟩ := List.pairwise_cons.1 h
    unfold insU
    split
    · rename_i hw
      refine List.pairwise_cons.2 ⟨fun y hy => ?_, insU_rise w h2⟩
      rcases List.mem_cons.1 ((insU_perm w r).mem_iff.1 hy) with rfl | hy
      · omega
      · exact h1 y hy
    · rename_i hw
      refine List.pairwise_cons.2 ⟨fun y hy => ?_, h⟩
      rcases List.mem_cons.1 hy with rfl | hy
      · omega
      · have := h1 y hy
        omega
theorem foldU_perm : ∀ (ps : List Sp) (s : List Lm), (ps.foldl (fun s p => insU (mkL p) s) s).Perm (s ++ ps.map mkL)
  | [], s => by simp
  | p :: ps, s => by
    rw [List.foldl_cons]
    refine (foldU_perm ps _).trans (((insU_perm (mkL p) s).append_right _).trans ?_)
    rw [List.map_cons]
    exact (List.perm_middle (a := mkL p) (l₁ := s) (l₂ := ps.map mkL)).symm
theorem foldU_rise : ∀ (ps : List Sp) {s : List Lm}, RiseS s → RiseS (ps.foldl (fun s p => insU (mkL p) s) s)
  | [], _, h => h
  | p :: ps, _, h => by rw [List.foldl_cons]; exact foldU_rise ps (insU_rise _ h)
theorem newT_perm (ps : List Sp) : (newT ps).Perm (ps.map mkL) := by simpa [newT] using foldU_perm ps []
theorem newT_rise (ps : List Sp) : RiseS (newT ps) := foldU_rise ps List.Pairwise.nil
structure RightM (f : Int) (ps : List Sp) : Prop where
  unit : ∀ p ∈ ps, 1 ≤ p.1 ∧ p.1 ≤ 1040
  share : ∀ p ∈ ps, 1 ≤ p.2 ∧ p.2 ≤ f
  once : ps.Pairwise fun a b => a.1 ≠ b.1
theorem isU_in {u : Int} (h : isU u = true) : 1 ≤ u ∧ u ≤ 1040 := by
  simp [isU] at h
  omega
theorem chkE_zeroM {f : Int} {b : List Sp} {y : Sp} (h : chkE f b y = 0) : isU y.1 = true ∧ (1 ≤ y.2 ∧ y.2 ≤ f) ∧ ∀ s ∈ b, s.1 ≠ y.1 := by
  unfold chkE at h
  split at h
  · cases h
  · rename_i h1
    split at h
    · cases h
    · rename_i h2
      split at h
      · cases h
      · rename_i h3
        refine ⟨by simpa using h1, by omega, fun s hs e => h3 ?_⟩
        exact List.any_eq_true.2 ⟨s, hs, by simpa using e⟩
theorem chkL_right {f : Int} : ∀ (r b : List Sp), RightM f b → chkL f b r = 0 → RightM f (b ++ r)
  | [], b, h, _ => by simpa using h
  | y :: r, b, h, hc => by
    unfold chkL at hc
    split at hc
    · rename_i h0
      obtain ⟨k1, k2, k3⟩ := chkE_zeroM h0
      have := chkL_right r (b ++ [y]) ⟨fun p hp => ?_, fun p hp => ?_, ?_⟩ hc
      · simpa using this
      · rcases List.mem_append.1 hp with hp | hp
        · exact h.unit p hp
        · rw [List.mem_singleton.1 hp]; exact isU_in k1
      · rcases List.mem_append.1 hp with hp | hp
        · exact h.share p hp
        · rw [List.mem_singleton.1 hp]; exact k2
      · refine List.pairwise_append.2 ⟨h.once, List.pairwise_singleton _ _, fun a ha c hc => ?_⟩
        rw [List.mem_singleton.1 hc]
        exact k3 a ha
    · rename_i h0
      exact absurd hc h0
theorem chk_right {f : Int} {ps : List Sp} (h : chkT f ps = 0) : (2 ≤ f ∧ f ≤ 64) ∧ RightM f ps := by
  unfold chkT at h
  split at h
  · cases h
  · exact ⟨by omega, by simpa using chkL_right ps [] ⟨fun p hp => (by cases hp), fun p hp => (by cases hp), List.Pairwise.nil⟩ h⟩

/-- All shares together. -/
def sumP : List Sp → Int
  | [] => 0
  | p :: ps => p.2 + sumP ps
theorem sumP_in {f : Int} : ∀ {ps : List Sp}, (∀ p ∈ ps, 1 ≤ p.2 ∧ p.2 ≤ f) → (ps.length : Int) ≤ sumP ps ∧ sumP ps ≤ f * ps.length
  | [], _ => by simp [sumP]
  | p :: ps, h => by
    have h1 := h p List.mem_cons_self
    have h2 := sumP_in (ps := ps) fun x hx => h x (List.mem_cons_of_mem _ hx)
    have e : sumP (p :: ps) = p.2 + sumP ps := rfl
    have e2 : ((p :: ps).length : Int) = (ps.length : Int) + 1 := by simp
    rw [e, e2, Int.mul_add, Int.mul_one]
    omega
theorem totL_right {f : Int} (hf : f ≤ 64) : ∀ (ps : List Sp) (t : Int), (∀ p ∈ ps, 1 ≤ p.2 ∧ p.2 ≤ f) → 0 ≤ t → t + 64 * ps.length ≤ 9223372036854775807 → totL t ps = some (t + sumP ps)
  | [], t, _, _, _ => by simp [totL, sumP]
  | p :: ps, t, h, h0, hb => by
    have h1 := h p List.mem_cons_self
    have e2 : ((p :: ps).length : Int) = (ps.length : Int) + 1 := by simp
    rw [e2] at hb
    have ha : addO t p.2 = some (t + p.2) := by unfold addO; rw [if_pos (by omega)]
    rw [totL_some ha, totL_right hf ps _ (fun x hx => h x (List.mem_cons_of_mem _ hx)) (by omega) (by omega)]
    show some _ = some (t + (p.2 + sumP ps))
    congr 1
    omega
theorem totT_right {f : Int} {ps : List Sp} (hf : f ≤ 64) (h : RightM f ps) (hl : ps.length ≤ 2000000) : totT ps = some (sumP ps) := by
  have := totL_right hf ps 0 h.share (Int.le_refl _) (by omega)
  rwa [Int.zero_add] at this
theorem sumS_perm {a b : List Lm} (h : a.Perm b) : sumM a = sumM b := by
  induction h with
  | nil => rfl
  | cons x _ ih => show x.s + _ = x.s + _; rw [ih]
  | swap x y l => show y.s + (x.s + sumM l) = x.s + (y.s + sumM l); omega
  | trans _ _ ih1 ih2 => rw [ih1, ih2]
theorem sumS_mk : ∀ {ps : List Sp}, (∀ p ∈ ps, 1 ≤ p.2) → ((sumM (ps.map mkL) : Nat) : Int) = sumP ps
  | [], _ => rfl
  | p :: ps, h => by
    have h1 := h p List.mem_cons_self
    have h2 := sumS_mk (ps := ps) fun x hx => h x (List.mem_cons_of_mem _ hx)
    show ((p.2.toNat + sumM (ps.map mkL) : Nat) : Int) = p.2 + sumP ps
    omega
theorem newT_sum {f : Int} {ps : List Sp} (h : RightM f ps) : ((sumM (newT ps) : Nat) : Int) = sumP ps := by
  rw [sumS_perm (newT_perm ps)]
  exact sumS_mk fun p hp => (h.share p hp).1
theorem once_perm {a b : List Lm} (h : a.Perm b) (hb : b.Pairwise fun x y => x.u ≠ y.u) : a.Pairwise fun x y => x.u ≠ y.u :=
  (h.symm.pairwise_iff fun {x y} hxy => fun e => hxy e.symm).1 hb
theorem mk_once {f : Int} {ps : List Sp} (h : RightM f ps) : (ps.map mkL).Pairwise fun x y => x.u ≠ y.u := by
  rw [List.pairwise_map]
  refine List.Pairwise.imp_of_mem ?_ h.once
  intro a b ha hb hne e
  have h1 := (h.unit a ha).1
  have h2 := (h.unit b hb).1
  apply hne
  have : a.1.toNat = b.1.toNat := e
  omega
theorem rise_of {l : List Lm} (h : RiseS l) (ho : l.Pairwise fun x y => x.u ≠ y.u) : l.Pairwise fun a b => a.u < b.u :=
  List.Pairwise.imp₂ (fun a b h1 h2 => by omega) h ho
theorem newT_ok {f : Int} {ps : List Sp} (hf : f ≤ 64) (h : RightM f ps) (hs : sumP ps ≤ f) : OkL 0 (newT ps) := by
  have hmem : ∀ m ∈ newT ps, ∃ p ∈ ps, mkL p = m := fun m hm => List.mem_map.1 ((newT_perm ps).mem_iff.1 hm)
  refine ⟨rise_of (newT_rise ps) (once_perm (newT_perm ps) (mk_once h)), fun m hm => ?_, fun m hm => ?_, ?_, fun m hm => ?_⟩
  · obtain ⟨p, hp, rfl⟩ := hmem m hm
    have := h.unit p hp
    show 1 ≤ p.1.toNat ∧ p.1.toNat ≤ 1040
    omega
  · obtain ⟨p, hp, rfl⟩ := hmem m hm
    have := h.share p hp
    show 0 < p.2.toNat
    omega
  · have := newT_sum h
    omega
  · obtain ⟨p, hp, rfl⟩ := hmem m hm
    exact Nat.le_refl _
/-- There is one list by rising units. -/
theorem rise_unique : ∀ {a b : List Lm}, (a.Pairwise fun x y => x.u < y.u) → (b.Pairwise fun x y => x.u < y.u) → a.Perm b → a = b
  | [], b, _, _, h => (List.nil_perm.1 h).symm
  | x :: a, [], _, _, h => by have := h.length_eq; simp at this
  | x :: a, y :: b, ha, hb, h => by
    obtain ⟨a1, a2⟩ := List.pairwise_cons.1 ha
    obtain ⟨b1, b2⟩ := List.pairwise_cons.1 hb
    have e : x = y := by
      rcases List.mem_cons.1 (h.mem_iff.1 List.mem_cons_self) with e | hx
      · exact e
      · rcases List.mem_cons.1 (h.mem_iff.2 List.mem_cons_self) with e | hy
        · exact e.symm
        · have := b1 x hx
          have := a1 y hy
          omega
    subst e
    rw [rise_unique a2 b2 h.cons_inv]
theorem sorted_new {f : Int} {ps : List Sp} (h : RightM f ps) {l : List Lm} (hr : RiseS l) (hp : l.Perm (ps.map mkL)) : l = newT ps :=
  rise_unique (rise_of hr (once_perm hp (mk_once h))) (rise_of (newT_rise ps) (once_perm (newT_perm ps) (mk_once h))) (hp.trans (newT_perm ps).symm)
/-- Whom New takes: what is wrong, or nothing. -/
def newE (f : Int) (ps : List Sp) : Int := if chkT f ps = 0 then (if f < sumP ps then 12 else 0) else chkT f ps
theorem newE_chk {f : Int} {ps : List Sp} (h : chkT f ps ≠ 0) : newE f ps = chkT f ps := by unfold newE; rw [if_neg h]
theorem newE_full {f : Int} {ps : List Sp} (h : chkT f ps = 0) (h2 : f < sumP ps) : newE f ps = 12 := by unfold newE; rw [if_pos h, if_pos h2]
theorem newE_ok {f : Int} {ps : List Sp} (h : chkT f ps = 0) (h2 : ¬ f < sumP ps) : newE f ps = 0 := by unfold newE; rw [if_pos h, if_neg h2]
theorem newE_zero {f : Int} {ps : List Sp} (h : newE f ps = 0) : chkT f ps = 0 ∧ sumP ps ≤ f := by
  by_cases h1 : chkT f ps = 0
  · by_cases h2 : f < sumP ps
    · rw [newE_full h1 h2] at h; cases h
    · exact ⟨h1, by omega⟩
  · rw [newE_chk h1] at h; exact absurd h h1
theorem new_okL {f : Int} {ps : List Sp} (h : newE f ps = 0) : OkL 0 (newT ps) := by
  obtain ⟨h1, h2⟩ := newE_zero h
  obtain ⟨⟨_, h3⟩, h4⟩ := chk_right h1
  exact newT_ok h3 h4 h2
/-- Each want stands there. -/
theorem new_mem {f : Int} {ps : List Sp} (h : newE f ps = 0) {p : Sp} (hp : p ∈ ps) : ∃ (k : Nat) (m : Lm), (newT ps)[k]? = some m ∧ (m.u : Int) = p.1 ∧ (m.s : Int) = p.2 := by
  obtain ⟨h1, h2⟩ := newE_zero h
  obtain ⟨_, h4⟩ := chk_right h1
  have hm : mkL p ∈ newT ps := (newT_perm ps).mem_iff.2 (List.mem_map.2 ⟨p, hp, rfl⟩)
  obtain ⟨k, hk, e⟩ := List.getElem_of_mem hm
  have hu := (h4.unit p hp).1
  have hs := (h4.share p hp).1
  exact ⟨k, mkL p, by rw [List.getElem?_eq_getElem hk, e], by show (p.1.toNat : Int) = _; omega, by show (p.2.toNat : Int) = _; omega⟩
end Go.Proofs.YtpfpojehcjmfnaaGreat

/-
  slices.IndexFunc over members; where a unit stands.
  Conditions: the predicate, whatever the world, answers so, and leaves all that was.
-/
set_option linter.unusedVariables false
namespace Go.Proofs.YtpfpojehcjmfnaaGreat
open Go.RowKit

/-- A predicate that may make memory. -/
def PredM (g : Nat) (lb : Array Value) (p : Lm → Bool) (w : World) : Prop :=
  ∀ (W : World) (x : Lm), Below w.heap.size w W → Calls Tryz.prog g (#[mbA x] ++ lb) W (RetB (.bool (p x)) W)
def idxO (o : Option Nat) : Int := match o with | none => -1 | some k => (k : Int)
theorem idx_none {p : Lm → Bool} {l : List Lm} (h : ∀ (j : Nat) (t : Lm), j < l.length → l[j]? = some t → p t = false) : l.findIdx? p = none := by
  rw [List.findIdx?_eq_none_iff]
  intro x hx
  obtain ⟨j, hj, e⟩ := List.getElem_of_mem hx
  exact h j x hj (by rw [List.getElem?_eq_getElem hj, e])
theorem idx_some {p : Lm → Bool} {l : List Lm} {k : Nat} {x : Lm} (hk : l[k]? = some x) (hx : p x = true) (h : ∀ (j : Nat) (t : Lm), j < k → l[j]? = some t → p t = false) : l.findIdx? p = some k := by
  obtain ⟨hlt, e⟩ := List.getElem?_eq_some_iff.1 hk
  rw [List.findIdx?_eq_some_iff_getElem]
  refine ⟨hlt, by rw [e]; exact hx, fun j hj => ?_⟩
  rw [h j l[j] hj (List.getElem?_eq_getElem (by omega))]
  decide

set_option maxRecDepth 100000 in
set_option maxHeartbeats 2000000 in
theorem indexM_any (g : Nat) (lb : Array Value) (eg : ∀ args w, (callFunc g args).run Tryz.prog w = .ok (.enter g args) w) (p : Lm → Bool) (v : Value) (l : List Lm) (w : World) (hp : PredM g lb p w) (h : RowM w v l) (hl : l.length ≤ 1000) :
    Calls Tryz.prog 121 #[v, .func (.func g) #[] lb] w (RetB (.int .i64 (idxO (l.findIdx? p))) w) := by
  obtain ⟨A, c, rfl⟩ := own_form h
  have HO := Lib.hid h
  have HP := Lib.hid hp
  generalize hn : l.length = n at *
  have HN := Lib.hid hn
  clear h hp hn
  go_enter Tryz.func121, Tryz.ntmps121
  go_wp2
  go_loopg [5, 8] n (fun gg _ s8 wr => ∃ kk : Nat, kk ≤ n ∧ gg = n - kk ∧ s8 = .int .i64 kk ∧ Below w.heap.size w wr ∧ ∀ (j : Nat) (t : Lm), j < kk → l[j]? = some t → p t = false)
  case atStart => exact ⟨0, Nat.zero_le _, by omega, rfl, Below.refl _ w, fun j t hj => absurd hj (Nat.not_lt_zero _)⟩
  case round =>
    obtain ⟨k, hk, hg, rfl, hbw, hall⟩ := hrel
    have HB := Lib.hid hbw
    have HALL := Lib.hid hall
    have HG := Lib.hid hg
    clear hbw hall hg
    by_cases hlt : k < n
    · have hltz : (k : Int) < (n : Int) := by omega
      obtain ⟨b, cap, hA, _, hbl, _, _, hcell, _⟩ := own3_lies HO.out (by rw [HN.out]; omega)
      have e1 : A = some ⟨b, 0, none⟩ := by injection hA
      clear hA
      subst e1
      obtain ⟨y, hy⟩ := ex_at (xs := l) (k := k) (by rw [HN.out]; exact hlt)
      obtain ⟨hc1', hc2', hc3'⟩ := (hcell k y hy).keep (HB.out.block b hbl)
      have hcall := HP.out wr y HB.out
      have HY := Lib.hid hy
      clear hcell hy
      unfold mbA at hcall
      cases hq : p y with
      | true =>
        rw [hq] at hcall
        have HC := Lib.hid hcall
        have HQ := Lib.hid hq
        clear hcall hq
        obtain ⟨y1, y2, y3⟩ := y
        simp only at hc1' hc2' hc3'
        go_wp2_with (go_at_fn g; refine HC.out.mono ?_; rintro e w' ⟨rfl, hb'⟩)
        go_ret
        refine ⟨?_, HB.out.trans (hb'.mono HB.out.size)⟩
        rw [idx_some HY.out HQ.out HALL.out]
        rfl
      | false =>
        rw [hq] at hcall
        have HC := Lib.hid hcall
        have HQ := Lib.hid hq
        clear hcall hq
        obtain ⟨y1, y2, y3⟩ := y
        simp only at hc1' hc2' hc3'
        go_wp2_with (go_at_fn g; refine HC.out.mono ?_; rintro e w' ⟨rfl, hb'⟩)
        go_roundg (n - (k + 1))
        case measure => have := HG.out; omega
        case rel =>
          refine ⟨k + 1, by omega, rfl, by go_num, HB.out.trans (hb'.mono HB.out.size), fun j t hj ht => ?_⟩
          by_cases e : j = k
          · subst e
            have := HY.out
            rw [this] at ht
            rw [← Option.some.inj ht]
            exact HQ.out
          · exact HALL.out j t (by omega) ht
    · have hltz : ¬ (k : Int) < (n : Int) := by omega
      go_wp2
      go_ret
      refine ⟨?_, HB.out⟩
      rw [idx_none (fun j t hj ht => HALL.out j t (by have := HN.out; omega) ht)]
      rfl

/-- The predicate of find: is it the unit that the box holds? -/
theorem isUnit_pred (w : World) (c : Nat) (u : Int) (hc : w.cell? ⟨c, 0, none⟩ = some (.int .i64 u)) : PredM 122 #[.pointer (some ⟨c, 0, none⟩)] (fun m => decide ((m.u : Int) = u)) w := by
  intro W x hb
  have hlt : c < w.heap.size := block_lt_of_cell hc
  have hc' := (hb.cell (p := ⟨c, 0, none⟩) hlt).trans hc
  have hlt2 : c < W.heap.size := Nat.lt_of_lt_of_le hlt hb.size
  clear hlt
  clear hb hc
  obtain ⟨x1, x2, x3⟩ := x
  show Calls Tryz.prog 122 #[.agg #[.int .i64 x1, .int .i64 x2, .int .i64 x3], .pointer (some ⟨c, 0, none⟩)] W (RetB (.bool (decide ((x1 : Int) = u))) W)
  go_enter Tryz.func122, Tryz.ntmps122
  go_wp2
  go_ret
  exact ⟨by by_cases e : (x1 : Int) = u <;> simp [e], (Below.refl _ W).alloc (Nat.le_refl _) _⟩

set_option maxRecDepth 100000 in
theorem findM_any (W : World) (rb : Nat) (mv : Value) (l : List Lm) (u : Int) (h : LocAt W rb mv l) (hl : l.length ≤ 1000) :
    Calls Tryz.prog 76 #[.pointer (some ⟨rb, 0, none⟩), .int .i64 u] W (RetB (.int .i64 (idxO (findT u l))) W) := by
  obtain ⟨c1, _⟩ := h.heads
  have hb1 := (Below.refl W.heap.size W).alloc (Nat.le_refl _) (.cells #[.int .i64 u] 3)
  have HB1 := Lib.hid hb1
  have hcell : (W.alloc (.cells #[.int .i64 u] 3)).cell? ⟨W.heap.size, 0, none⟩ = some (.int .i64 u) := World.cell?_alloc_new (w := W) _ _ 0
  have HI := Lib.hid (indexM_any 122 #[.pointer (some ⟨W.heap.size, 0, none⟩)] (by intro args w; rfl) (fun m => decide ((m.u : Int) = u)) mv l _ (isUnit_pred _ _ u hcell) (h.below hb1).row hl)
  have hlt := h.lt
  clear hb1 hcell h
  unfold findT
  go_enter Tryz.func76, Tryz.ntmps76
  go_wp2_with (go_at_call 121; refine HI.out.mono ?_; rintro e w' ⟨rfl, hb⟩)
  go_ret
  exact ⟨rfl, HB1.out.trans (hb.mono HB1.out.size)⟩
end Go.Proofs.YtpfpojehcjmfnaaGreat
