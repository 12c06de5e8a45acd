/-
  Calls as they are handed in; a ring that never rebases, beside the program's.
  Conditions: none.
-/
import Derived.Test.YtanchjcifhbllaaAwake
set_option linter.unusedVariables false
namespace Go.Proofs.Ytanchjcifhbllaa
open Go.RowKit

/-- A call: its kind, the id, the weight, how many picks. -/
abbrev ActH := Int × Int × Int × Nat
def ActAt (W : World) (b o : Nat) (a : ActH) : Prop := W.cell? ⟨b, o, none⟩ = some (.int .i64 a.1) ∧ W.cell? ⟨b, o + 1, none⟩ = some (.int .i64 a.2.1) ∧ W.cell? ⟨b, o + 2, none⟩ = some (.int .i64 a.2.2.1) ∧ W.cell? ⟨b, o + 3, none⟩ = some (.int .u8 (a.2.2.2 : Int))
def ActsAt (W : World) (v : Value) (l : List ActH) : Prop :=
  ∃ A c, v = .slice A l.length c ∧ l.length ≤ 9223372036854775807 ∧ (0 < l.length → ∃ b off, A = some ⟨b, off, none⟩ ∧ b < W.heap.size ∧ ∀ (j : Nat) (a : ActH), l[j]? = some a → ActAt W b (off + j * 4) a)
def ActOk (a : ActH) : Prop := a.2.2.2 < 256
theorem ActAt.keep {W W' : World} {B b o : Nat} {a : ActH} (h : ActAt W b o a) (hb : Below B W W') (hlt : b < B) : ActAt W' b o a :=
  ⟨(hb.cell (p := ⟨b, o, none⟩) hlt).trans h.1, (hb.cell (p := ⟨b, o + 1, none⟩) hlt).trans h.2.1, (hb.cell (p := ⟨b, o + 2, none⟩) hlt).trans h.2.2.1, (hb.cell (p := ⟨b, o + 3, none⟩) hlt).trans h.2.2.2⟩

/-- The ring is, but for whole numbers, one that never rebased. -/
def Ghost (S P : Rg) : Prop := ∃ K C, Sim K S P ∧ Fit C S ∧ Hugs S
theorem ghost_new (L : Nat) (h1 : 2048 ≤ L) (h2 : L ≤ 1099511627776) : Ghost (newR L) (newR L) :=
  ⟨0, L, Sim.zero (newR L) L, (okay_new h1 h2).fit, fun m hm => by cases hm⟩
theorem Ghost.call {S P : Rg} (h : Ghost S P) (kind id w : Int) : Ghost (callA S kind id w).2 (callA P kind id w).2 := by
  obtain ⟨K, C, h1, h2, h3⟩ := h
  exact ⟨K, C, (h1.call h2 kind id w).2, (h2.call kind id w).1, h3.call h2 kind id w⟩
theorem Ghost.pick {S P : Rg} (h : Ghost S P) : Ghost (plainA S).2 (pickA P).2 := by
  obtain ⟨K, C, h1, h2, h3⟩ := h
  obtain ⟨_, K', h4⟩ := h1.pick h2
  exact ⟨K', C + 1, h4, h2.plain, h3.plain h2⟩
theorem Ghost.pickV {S P : Rg} (h : Ghost S P) : Go.Proofs.Ytanchjcifhbllaa.pickV P = Go.Proofs.Ytanchjcifhbllaa.pickV S := by
  obtain ⟨K, C, h1, h2, h3⟩ := h
  unfold Go.Proofs.Ytanchjcifhbllaa.pickV
  rw [h1.best]
  cases Go.Proofs.Ytanchjcifhbllaa.best S.l <;> rfl
theorem Ghost.l {S P : Rg} (h : Ghost S P) : ∃ K, P.l = S.l.map (shift K) := by
  obtain ⟨K, C, h1, _⟩ := h
  exact ⟨K, h1.l⟩
theorem Ghost.at_ {S P : Rg} (h : Ghost S P) {j : Nat} {p : Mb} (hp : P.l[j]? = some p) : ∃ m, S.l[j]? = some m ∧ p.id = m.id ∧ p.w = m.w ∧ p.on = m.on ∧ (m.on = true → leadA P p = leadA S m ∧ leadB P p = leadB S m ∧ leadA P p * p.w ≤ leadB P p) := by
  obtain ⟨K, C, h1, h2, h3⟩ := h
  rw [h1.l, List.getElem?_map] at hp
  cases hm : S.l[j]? with
  | none => rw [hm] at hp; cases hp
  | some m =>
    rw [hm] at hp
    injection hp with hp
    subst hp
    refine ⟨m, rfl, rfl, rfl, rfl, fun ho => ?_⟩
    have hmm := List.mem_of_getElem? hm
    obtain ⟨k1, k2⟩ := h1.lead h2 hmm ho
    refine ⟨k1, k2, ?_⟩
    rw [k1, k2]
    exact h3.near h2 hmm ho
/-- What a member's lead is, divided: it is at most one by its weight. -/
theorem lead_div {a b w : Nat} (h : a * w ≤ b) (hw : 0 < w) (hb : 0 < b) : quoN a (gOf a b) ≤ quoN b (gOf a b) / w ∧ 0 < quoN b (gOf a b) := by
  unfold quoN gOf
  have hg : 0 < Nat.gcd a b := Nat.gcd_pos_of_pos_right _ hb
  obtain ⟨x, hx⟩ := Nat.gcd_dvd_left a b
  obtain ⟨y, hy⟩ := Nat.gcd_dvd_right a b
  generalize Nat.gcd a b = g at *
  subst hx hy
  rw [Nat.mul_div_cancel_left _ hg, Nat.mul_div_cancel_left _ hg]
  have hy0 : 0 < y := Nat.pos_of_mul_pos_left hb |> fun h => by
    rcases Nat.eq_zero_or_pos y with e | e
    · subst e; simp at hb
    · exact e
  refine ⟨(Nat.le_div_iff_mul_le hw).2 ?_, hy0⟩
  rw [Nat.mul_assoc] at h
  exact Nat.le_of_mul_le_mul_left h hg
end Go.Proofs.Ytanchjcifhbllaa
