/-
  The normal list of any spans: as the program joins it, and that it is the one.
  Conditions: none.
-/
import Derived.Test.YtademjmnoncieaaSpanMath
set_option linter.unusedVariables false
namespace Go.Proofs.Ytademjmnoncieaa

def RisingS (qs : List Sp) : Prop := qs.Pairwise (fun s t => s.1 ≤ t.1)
def normT (ps : List Sp) : List Sp := joinT [] ((ps.filter fullS).mergeSort (fun s t => decide (s.1 ≤ t.1)))

theorem joined_isN {ps qs : List Sp} (hp : qs.Perm (ps.filter fullS)) (hr : RisingS qs) : IsN (joinT [] qs) (hasS ps) := by
  obtain ⟨h1, h2⟩ := joinT_spec qs [] normal_nil (fun s hs => by
    have := (List.mem_filter.1 (hp.mem_iff.1 hs)).2
    unfold fullS at this
    simpa using this) hr (by simp)
  refine ⟨h1, fun x => ?_⟩
  rw [h2, ← hasS_filter ps, hasS_mem_iff (fun s => hp.mem_iff)]
  simp [hasS_nil]
theorem normT_isN (ps : List Sp) : IsN (normT ps) (hasS ps) := by
  refine joined_isN (List.mergeSort_perm _ _) ?_
  unfold RisingS
  have := List.pairwise_mergeSort (le := fun s t : Sp => decide (s.1 ≤ t.1)) (fun a b c h1 h2 => by simp at *; omega) (fun a b => by simp; omega) (ps.filter fullS)
  exact this.imp (fun h => by simpa using h)
theorem joined_eq {ps qs : List Sp} (hp : qs.Perm (ps.filter fullS)) (hr : RisingS qs) : joinT [] qs = normT ps :=
  (joined_isN hp hr).unique (normT_isN ps) fun _ => Iff.rfl
theorem normT_of {ps r : List Sp} (h : IsN r (hasS ps)) : normT ps = r := (normT_isN ps).unique h fun _ => Iff.rfl
theorem joinT_length : ∀ (l row : List Sp), (joinT row l).length ≤ row.length + l.length
  | [], row => by simp [joinT]
  | s :: r, row => by
    have h := joinT_length r (joinStep row s)
    have := joinStep_length row s
    have e : joinT row (s :: r) = joinT (joinStep row s) r := rfl
    rw [e]
    simp
    omega
theorem normT_length (ps : List Sp) : (normT ps).length ≤ ps.length := by
  unfold normT
  have h1 := joinT_length ((ps.filter fullS).mergeSort (fun s t => decide (s.1 ≤ t.1))) []
  have h2 := List.length_filter_le fullS ps
  rw [List.length_mergeSort] at h1
  simp at h1
  omega

/-! The ways of both. -/
theorem union_eq (a b : List Sp) : ∀ x, hasS (normT (a ++ b)) x ↔ hasS a x ∨ hasS b x := fun x => ((normT_isN _).2 x).trans (hasS_append a b x)
def meetN (a b : List Sp) : List Sp := (meetT (normT a) (normT b)).filter fullS
theorem meetN_isN (a b : List Sp) : IsN (meetN a b) (fun x => hasS a x ∧ hasS b x) :=
  (meet_isN (normT_isN a).1 (normT_isN b).1).congr fun x => by rw [(normT_isN a).2, (normT_isN b).2]
theorem meetN_length (a b : List Sp) : (meetN a b).length ≤ a.length + b.length := by
  unfold meetN
  have h1 := List.length_filter_le fullS (meetT (normT a) (normT b))
  have h2 := meetT_length _ (normT a) (normT b) (Nat.le_refl _)
  have h3 := normT_length a
  have h4 := normT_length b
  omega
def gapsN (l : List Sp) (f to : Int) : List Sp := (gapsT to f (normT l)).filter fullS
theorem gapsN_isN (l : List Sp) (f to : Int) : IsN (gapsN l f to) (fun x => (f ≤ x ∧ x < to) ∧ ¬ hasS l x) :=
  (gaps_isN (normT_isN l).1 f to).congr fun x => by rw [(normT_isN l).2]
theorem gapsN_length (l : List Sp) (f to : Int) : (gapsN l f to).length ≤ l.length + 1 := by
  unfold gapsN
  have h1 := List.length_filter_le fullS (gapsT to f (normT l))
  have h2 := gapsT_length to (normT l) f
  have h3 := normT_length l
  omega
/-- The numbers are ints. -/
def IntsS (l : List Sp) : Prop := ∀ s ∈ l, (-9223372036854775808 ≤ s.1 ∧ s.1 ≤ 9223372036854775807) ∧ (-9223372036854775808 ≤ s.2 ∧ s.2 ≤ 9223372036854775807)
theorem IntsS.has {l : List Sp} (h : IntsS l) {x : Int} (hx : hasS l x) : -9223372036854775808 ≤ x ∧ x < 9223372036854775807 := by
  obtain ⟨s, hs, h1, h2⟩ := hx
  obtain ⟨⟨g1, g2⟩, g3, g4⟩ := h s hs
  omega
def lessN5 (a b : List Sp) : List Sp := meetN a (gapsN b (-9223372036854775808) 9223372036854775807)
theorem lessN_isN {a : List Sp} (b : List Sp) (ha : IntsS a) : IsN (lessN5 a b) (fun x => hasS a x ∧ ¬ hasS b x) :=
  (meetN_isN a _).congr fun x => by
    rw [(gapsN_isN b _ _).2]
    constructor
    · rintro ⟨h1, _, h2⟩; exact ⟨h1, h2⟩
    · rintro ⟨h1, h2⟩; exact ⟨h1, ha.has h1, h2⟩
theorem lessN_length (a b : List Sp) : (lessN5 a b).length ≤ a.length + b.length + 1 := by
  have h1 := meetN_length a (gapsN b (-9223372036854775808) 9223372036854775807)
  have h2 := gapsN_length b (-9223372036854775808) 9223372036854775807
  unfold lessN5
  omega
/-- Disjoint and together: the whole. -/
theorem parts_union {a : List Sp} (b : List Sp) (ha : IntsS a) : normT (meetN a b ++ lessN5 a b) = normT a := by
  refine normT_of ⟨(normT_isN a).1, fun x => ?_⟩
  rw [(normT_isN a).2, hasS_append, (meetN_isN a b).2, (lessN_isN b ha).2]
  by_cases h : hasS b x <;> simp [h]
theorem parts_apart {a : List Sp} (b : List Sp) (ha : IntsS a) : meetN (meetN a b) (lessN5 a b) = [] := by
  refine (meetN_isN _ _).unique (T := fun _ => False) ⟨normal_nil, fun x => by simp [hasS_nil]⟩ fun x => ?_
  rw [(meetN_isN a b).2, (lessN_isN b ha).2]
  constructor
  · rintro ⟨⟨_, h1⟩, _, h2⟩; exact h2 h1
  · exact fun h => h.elim

/-! How many. -/
/-- How many of the n numbers from lo on are in the list. -/
noncomputable def measS (l : List Sp) (lo : Int) : Nat → Int
  | 0 => 0
  | n + 1 => measS l lo n + (open Classical in if hasS l (lo + n) then 1 else 0)
def sumS (l : List Sp) : Int := (l.map (fun s => s.2 - s.1)).sum
theorem measS_congr {l m : List Sp} (lo : Int) : ∀ n, (∀ x, hasS l x ↔ hasS m x) → measS l lo n = measS m lo n
  | 0, _ => rfl
  | n + 1, h => by rw [measS, measS, measS_congr lo n h, propext (h _)]
theorem measS_add {l m k : List Sp} (lo : Int) : ∀ n, (∀ x, hasS k x ↔ hasS l x ∨ hasS m x) → (∀ x, ¬ (hasS l x ∧ hasS m x)) → measS k lo n = measS l lo n + measS m lo n
  | 0, _, _ => rfl
  | n + 1, h, hd => by
    rw [measS, measS, measS, measS_add lo n h hd, propext (h _)]
    by_cases h1 : hasS l (lo + n) <;> by_cases h2 : hasS m (lo + n)
    · exact absurd ⟨h1, h2⟩ (hd _)
    · simp [h1, h2]; omega
    · simp [h1, h2]; omega
    · simp [h1, h2]
theorem measS_nil (lo : Int) : ∀ n, measS [] lo n = 0
  | 0 => rfl
  | n + 1 => by rw [measS, measS_nil lo n]; simp [hasS_nil]
/-- One span, cut at the end of what is counted. -/
theorem measS_one (s : Sp) (lo : Int) (h1 : lo ≤ s.1) (h2 : s.1 ≤ s.2) : ∀ n : Nat, measS [s] lo n = max 0 (min s.2 (lo + n) - s.1)
  | 0 => by rw [measS]; omega
  | n + 1 => by
    rw [measS, measS_one s lo h1 h2 n, hasS_one]
    by_cases h : s.1 ≤ lo + n ∧ lo + n < s.2
    · rw [if_pos h]; omega
    · rw [if_neg h]; omega
theorem measS_sum : ∀ (l : List Sp) (lo : Int) (n : Nat), NormalS l → (∀ s ∈ l, lo ≤ s.1 ∧ s.2 ≤ lo + n) → measS l lo n = sumS l
  | [], lo, n, _, _ => by rw [measS_nil]; rfl
  | s :: r, lo, n, h, hb => by
    obtain ⟨a1, a2, a3⟩ := normal_cons.1 h
    obtain ⟨b1, b2⟩ := hb s List.mem_cons_self
    rw [measS_add (l := [s]) (m := r) lo n (fun x => by rw [hasS_cons, hasS_one]) (fun x ⟨h1, h2⟩ => by
      rw [hasS_one] at h1
      have := normal_rest_gt h h2
      omega), measS_one s lo b1 (by omega) n, measS_sum r lo n a3 (fun t ht => hb t (List.mem_cons_of_mem _ ht))]
    simp [sumS]
    omega
theorem normal_ints {r : List Sp} (hn : NormalS r) (h : ∀ x, hasS r x → -9223372036854775808 ≤ x ∧ x < 9223372036854775807) : ∀ s ∈ r, -9223372036854775808 ≤ s.1 ∧ s.2 ≤ 9223372036854775807 := by
  intro s hs
  have hlt := hn.1 s hs
  have h1 := h s.1 ⟨s, hs, Int.le_refl _, hlt⟩
  have h2 := h (s.2 - 1) ⟨s, hs, by omega, by omega⟩
  omega
theorem sum_parts {a : List Sp} (b : List Sp) (ha : IntsS a) : sumS (meetN a b) + sumS (lessN5 a b) = sumS (normT a) := by
  obtain ⟨N, hN⟩ : ∃ N : Nat, N = 18446744073709551615 := ⟨_, rfl⟩
  have key : ∀ r : List Sp, NormalS r → (∀ x, hasS r x → hasS a x) → measS r (-9223372036854775808) N = sumS r := fun r hn hr =>
    measS_sum r _ N hn fun s hs => by
      have := normal_ints hn (fun x hx => ha.has (hr x hx)) s hs
      omega
  rw [← key _ (meetN_isN a b).1 (fun x hx => (((meetN_isN a b).2 x).1 hx).1), ← key _ (lessN_isN b ha).1 (fun x hx => (((lessN_isN b ha).2 x).1 hx).1), ← key _ (normT_isN a).1 (fun x hx => ((normT_isN a).2 x).1 hx)]
  refine (measS_add _ N (fun x => ?_) (fun x => ?_)).symm
  · rw [(normT_isN a).2, (meetN_isN a b).2, (lessN_isN b ha).2]
    by_cases h : hasS b x <;> simp [h]
  · rw [(meetN_isN a b).2, (lessN_isN b ha).2]
    rintro ⟨⟨_, h1⟩, _, h2⟩
    exact h2 h1
end Go.Proofs.Ytademjmnoncieaa
