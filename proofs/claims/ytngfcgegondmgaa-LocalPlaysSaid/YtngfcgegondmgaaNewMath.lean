/-
  What New makes of wants: members by rising units; what right wants are.
  Conditions: none.
-/
import Derived.Test.YtngfcgegondmgaaLocMath
import Derived.Test.YtngfcgegondmgaaLocs
set_option linter.unusedVariables false
namespace Go.Proofs.Ytngfcgegondmgaa

def mkL (p : Sp) : Lm := ⟨p.1.toNat, p.2.toNat, 0⟩
def insU (w : Lm) : List Lm → List Lm
  | [] => [w]
  | x :: r => if x.u < w.u then x :: insU w r else w :: x :: r
def newT (ps : List Sp) : List Lm := ps.foldl (fun s p => insU (mkL p) s) []
theorem insU_perm (w : Lm) : ∀ l : List Lm, (insU w l).Perm (w :: l)
  | [] => List.Perm.refl _
  | x :: r => by
    unfold insU
    split
    · exact ((insU_perm w r).cons x).trans (List.Perm.swap w x r)
    · exact List.Perm.refl _
theorem insU_len (w : Lm) (l : List Lm) : (insU w l).length = l.length + 1 := (insU_perm w l).length_eq
def RiseS (l : List Lm) : Prop := l.Pairwise fun a b => a.u ≤ b.u
theorem insU_rise (w : Lm) : ∀ {l : List Lm}, RiseS l → RiseS (insU w l)
  | [], _ => List.pairwise_singleton _ _
  | x :: r, h => by
    obtain ⟨h1, h2⟩ := List.pairwise_cons.1 h
    unfold insU
    split
    · rename_i hw
      refine List.pairwise_cons.2 ⟨fun y hy => ?_, insU_rise w h2⟩
      rcases List.mem_cons.1 ((insU_perm w r).mem_iff.1 hy) with rfl | hy
      · omega
      · exact h1 y hy
    · rename_i hw
      refine List.pairwise_cons.2 ⟨fun y hy => ?_, h⟩
      rcases List.mem_cons.1 hy with rfl | hy
      · omega
      · have := h1 y hy
        omega
theorem foldU_perm : ∀ (ps : List Sp) (s : List Lm), (ps.foldl (fun s p => insU (mkL p) s) s).Perm (s ++ ps.map mkL)
  | [], s => by simp
  | p :: ps, s => by
    rw [List.foldl_cons]
    refine (foldU_perm ps _).trans (((insU_perm (mkL p) s).append_right _).trans ?_)
    rw [List.map_cons]
    exact (List.perm_middle (a := mkL p) (l₁ := s) (l₂ := ps.map mkL)).symm
theorem foldU_rise : ∀ (ps : List Sp) {s : List Lm}, RiseS s → RiseS (ps.foldl (fun s p => insU (mkL p) s) s)
  | [], _, h => h
  | p :: ps, _, h => by rw [List.foldl_cons]; exact foldU_rise ps (insU_rise _ h)
theorem newT_perm (ps : List Sp) : (newT ps).Perm (ps.map mkL) := by simpa [newT] using foldU_perm ps []
theorem newT_rise (ps : List Sp) : RiseS (newT ps) := foldU_rise ps List.Pairwise.nil
theorem newT_len (ps : List Sp) : (newT ps).length = ps.length := by rw [(newT_perm ps).length_eq, List.length_map]
theorem newT_snoc (ps : List Sp) (p : Sp) : newT (ps ++ [p]) = insU (mkL p) (newT ps) := by simp [newT]

/-! ### Right wants -/
structure Right (f : Int) (ps : List Sp) : Prop where
  unit : ∀ p ∈ ps, 1 ≤ p.1 ∧ p.1 ≤ 1040
  share : ∀ p ∈ ps, 1 ≤ p.2 ∧ p.2 ≤ f
  once : ps.Pairwise fun a b => a.1 ≠ b.1
theorem isU_in {u : Int} (h : isU u = true) : 1 ≤ u ∧ u ≤ 1040 := by
  simp [isU] at h
  omega
theorem chkE_zero {f : Int} {b : List Sp} {y : Sp} (h : chkE f b y = 0) : isU y.1 = true ∧ (1 ≤ y.2 ∧ y.2 ≤ f) ∧ ∀ s ∈ b, s.1 ≠ y.1 := by
  unfold chkE at h
  split at h
  · cases h
  · rename_i h1
    split at h
    · cases h
    · rename_i h2
      split at h
      · cases h
      · rename_i h3
        refine ⟨by simpa using h1, by omega, fun s hs e => h3 ?_⟩
        exact List.any_eq_true.2 ⟨s, hs, by simpa using e⟩
theorem chkL_right {f : Int} : ∀ (r b : List Sp), Right f b → chkL f b r = 0 → Right f (b ++ r)
  | [], b, h, _ => by simpa using h
  | y :: r, b, h, hc => by
    unfold chkL at hc
    split at hc
    · rename_i h0
      obtain ⟨k1, k2, k3⟩ := chkE_zero h0
      have := chkL_right r (b ++ [y]) ⟨fun p hp => ?_, fun p hp => ?_, ?_⟩ hc
      · simpa using this
      · rcases List.mem_append.1 hp with hp | hp
        · exact h.unit p hp
        · rw [List.mem_singleton.1 hp]; exact isU_in k1
      · rcases List.mem_append.1 hp with hp | hp
        · exact h.share p hp
        · rw [List.mem_singleton.1 hp]; exact k2
      · refine List.pairwise_append.2 ⟨h.once, List.pairwise_singleton _ _, fun a ha c hc => ?_⟩
        rw [List.mem_singleton.1 hc]
        exact k3 a ha
    · rename_i h0
      exact absurd hc h0
theorem chk_right {f : Int} {ps : List Sp} (h : chkT f ps = 0) : (2 ≤ f ∧ f ≤ 64) ∧ Right f ps := by
  unfold chkT at h
  split at h
  · cases h
  · exact ⟨by omega, by simpa using chkL_right ps [] ⟨fun p hp => (by cases hp), fun p hp => (by cases hp), List.Pairwise.nil⟩ h⟩

/-- All shares together. -/
def sumP : List Sp → Int
  | [] => 0
  | p :: ps => p.2 + sumP ps
theorem sumP_in {f : Int} : ∀ {ps : List Sp}, (∀ p ∈ ps, 1 ≤ p.2 ∧ p.2 ≤ f) → (ps.length : Int) ≤ sumP ps ∧ sumP ps ≤ f * ps.length
  | [], _ => by simp [sumP]
  | p :: ps, h => by
    have h1 := h p List.mem_cons_self
    have h2 := sumP_in (ps := ps) fun x hx => h x (List.mem_cons_of_mem _ hx)
    have e : sumP (p :: ps) = p.2 + sumP ps := rfl
    have e2 : ((p :: ps).length : Int) = (ps.length : Int) + 1 := by simp
    rw [e, e2, Int.mul_add, Int.mul_one]
    omega
theorem totL_right {f : Int} (hf : f ≤ 64) : ∀ (ps : List Sp) (t : Int), (∀ p ∈ ps, 1 ≤ p.2 ∧ p.2 ≤ f) → 0 ≤ t → t + 64 * ps.length ≤ 9223372036854775807 → totL t ps = some (t + sumP ps)
  | [], t, _, _, _ => by simp [totL, sumP]
  | p :: ps, t, h, h0, hb => by
    have h1 := h p List.mem_cons_self
    have e2 : ((p :: ps).length : Int) = (ps.length : Int) + 1 := by simp
    rw [e2] at hb
    have ha : addO t p.2 = some (t + p.2) := by unfold addO; rw [if_pos (by omega)]
    rw [totL_some ha, totL_right hf ps _ (fun x hx => h x (List.mem_cons_of_mem _ hx)) (by omega) (by omega)]
    show some _ = some (t + (p.2 + sumP ps))
    congr 1
    omega
theorem totT_right {f : Int} {ps : List Sp} (hf : f ≤ 64) (h : Right f ps) (hl : ps.length ≤ 100000) : totT ps = some (sumP ps) := by
  have := totL_right hf ps 0 h.share (Int.le_refl _) (by omega)
  rwa [Int.zero_add] at this
theorem sumS_perm {a b : List Lm} (h : a.Perm b) : sumS a = sumS b := by
  induction h with
  | nil => rfl
  | cons x _ ih => show x.s + _ = x.s + _; rw [ih]
  | swap x y l => show y.s + (x.s + sumS l) = x.s + (y.s + sumS l); omega
  | trans _ _ ih1 ih2 => rw [ih1, ih2]
theorem sumS_mk : ∀ {ps : List Sp}, (∀ p ∈ ps, 1 ≤ p.2) → ((sumS (ps.map mkL) : Nat) : Int) = sumP ps
  | [], _ => rfl
  | p :: ps, h => by
    have h1 := h p List.mem_cons_self
    have h2 := sumS_mk (ps := ps) fun x hx => h x (List.mem_cons_of_mem _ hx)
    show ((p.2.toNat + sumS (ps.map mkL) : Nat) : Int) = p.2 + sumP ps
    omega
theorem newT_sum {f : Int} {ps : List Sp} (h : Right f ps) : ((sumS (newT ps) : Nat) : Int) = sumP ps := by
  rw [sumS_perm (newT_perm ps)]
  exact sumS_mk fun p hp => (h.share p hp).1
theorem once_perm {a b : List Lm} (h : a.Perm b) (hb : b.Pairwise fun x y => x.u ≠ y.u) : a.Pairwise fun x y => x.u ≠ y.u :=
  (h.symm.pairwise_iff fun {x y} hxy => fun e => hxy e.symm).1 hb
theorem mk_once {f : Int} {ps : List Sp} (h : Right f ps) : (ps.map mkL).Pairwise fun x y => x.u ≠ y.u := by
  rw [List.pairwise_map]
  refine List.Pairwise.imp_of_mem ?_ h.once
  intro a b ha hb hne e
  have h1 := (h.unit a ha).1
  have h2 := (h.unit b hb).1
  apply hne
  have : a.1.toNat = b.1.toNat := e
  omega
theorem rise_of {l : List Lm} (h : RiseS l) (ho : l.Pairwise fun x y => x.u ≠ y.u) : l.Pairwise fun a b => a.u < b.u :=
  List.Pairwise.imp₂ (fun a b h1 h2 => by omega) h ho
theorem newT_ok {f : Int} {ps : List Sp} (hf : f ≤ 64) (h : Right f ps) (hs : sumP ps ≤ f) : OkL 0 (newT ps) := by
  have hmem : ∀ m ∈ newT ps, ∃ p ∈ ps, mkL p = m := fun m hm => List.mem_map.1 ((newT_perm ps).mem_iff.1 hm)
  refine ⟨rise_of (newT_rise ps) (once_perm (newT_perm ps) (mk_once h)), fun m hm => ?_, fun m hm => ?_, ?_, fun m hm => ?_⟩
  · obtain ⟨p, hp, rfl⟩ := hmem m hm
    have := h.unit p hp
    show 1 ≤ p.1.toNat ∧ p.1.toNat ≤ 1040
    omega
  · obtain ⟨p, hp, rfl⟩ := hmem m hm
    have := h.share p hp
    show 0 < p.2.toNat
    omega
  · have := newT_sum h
    omega
  · obtain ⟨p, hp, rfl⟩ := hmem m hm
    exact Nat.le_refl _
/-- There is one list by rising units. -/
theorem rise_unique : ∀ {a b : List Lm}, (a.Pairwise fun x y => x.u < y.u) → (b.Pairwise fun x y => x.u < y.u) → a.Perm b → a = b
  | [], b, _, _, h => (List.nil_perm.1 h).symm
  | x :: a, [], _, _, h => by have := h.length_eq; simp at this
  | x :: a, y :: b, ha, hb, h => by
    obtain ⟨a1, a2⟩ := List.pairwise_cons.1 ha
    obtain ⟨b1, b2⟩ := List.pairwise_cons.1 hb
    have e : x = y := by
      rcases List.mem_cons.1 (h.mem_iff.1 List.mem_cons_self) with e | hx
      · exact e
      · rcases List.mem_cons.1 (h.mem_iff.2 List.mem_cons_self) with e | hy
        · exact e.symm
        · have := b1 x hx
          have := a1 y hy
          omega
    subst e
    rw [rise_unique a2 b2 h.cons_inv]
theorem sorted_new {f : Int} {ps : List Sp} (h : Right f ps) {l : List Lm} (hr : RiseS l) (hp : l.Perm (ps.map mkL)) : l = newT ps :=
  rise_unique (rise_of hr (once_perm hp (mk_once h))) (rise_of (newT_rise ps) (once_perm (newT_perm ps) (mk_once h))) (hp.trans (newT_perm ps).symm)
/-- Whom New takes: what is wrong, or nothing. -/
def newE (f : Int) (ps : List Sp) : Int := if chkT f ps = 0 then (if f < sumP ps then 12 else 0) else chkT f ps
theorem newE_chk {f : Int} {ps : List Sp} (h : chkT f ps ≠ 0) : newE f ps = chkT f ps := by unfold newE; rw [if_neg h]
theorem newE_full {f : Int} {ps : List Sp} (h : chkT f ps = 0) (h2 : f < sumP ps) : newE f ps = 12 := by unfold newE; rw [if_pos h, if_pos h2]
theorem newE_ok {f : Int} {ps : List Sp} (h : chkT f ps = 0) (h2 : ¬ f < sumP ps) : newE f ps = 0 := by unfold newE; rw [if_pos h, if_neg h2]
theorem newE_zero {f : Int} {ps : List Sp} (h : newE f ps = 0) : chkT f ps = 0 ∧ sumP ps ≤ f := by
  by_cases h1 : chkT f ps = 0
  · by_cases h2 : f < sumP ps
    · rw [newE_full h1 h2] at h; cases h
    · exact ⟨h1, by omega⟩
  · rw [newE_chk h1] at h; exact absurd h h1
theorem new_okL {f : Int} {ps : List Sp} (h : newE f ps = 0) : OkL 0 (newT ps) := by
  obtain ⟨h1, h2⟩ := newE_zero h
  obtain ⟨⟨_, h3⟩, h4⟩ := chk_right h1
  exact newT_ok h3 h4 h2
/-- Each want stands there. -/
theorem new_mem {f : Int} {ps : List Sp} (h : newE f ps = 0) {p : Sp} (hp : p ∈ ps) : ∃ (k : Nat) (m : Lm), (newT ps)[k]? = some m ∧ (m.u : Int) = p.1 ∧ (m.s : Int) = p.2 := by
  obtain ⟨h1, h2⟩ := newE_zero h
  obtain ⟨_, h4⟩ := chk_right h1
  have hm : mkL p ∈ newT ps := (newT_perm ps).mem_iff.2 (List.mem_map.2 ⟨p, hp, rfl⟩)
  obtain ⟨k, hk, e⟩ := List.getElem_of_mem hm
  have hu := (h4.unit p hp).1
  have hs := (h4.share p hp).1
  exact ⟨k, mkL p, by rw [List.getElem?_eq_getElem hk, e], by show (p.1.toNat : Int) = _; omega, by show (p.2.toNat : Int) = _; omega⟩
end Go.Proofs.Ytngfcgegondmgaa
