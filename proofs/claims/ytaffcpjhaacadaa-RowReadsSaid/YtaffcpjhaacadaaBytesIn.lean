/-
  Bytes that lie in blocks below a bound.
  Conditions: none.
-/
import Derived.Test.YtaffcpjhaacadaaRefValue
set_option linter.unusedVariables false
namespace Go.Proofs.Ytaffcpjhaacadaa
open Go.RowKit

/-- The value reads as bytes that lie below the block B. -/
def BytesIn (B : Nat) (W : World) (v : Value) (xs : List Nat) : Prop :=
  ∃ A c, v = .slice A xs.length c ∧ xs.length ≤ c ∧ c ≤ 9223372036854775807 ∧ (A = none → c = 0) ∧ (∀ x ∈ xs, x < 256) ∧
    (0 < xs.length → ∃ b off, A = some ⟨b, off, none⟩ ∧ b < B ∧ ∀ (j : Nat) (x : Nat), xs[j]? = some x → W.cell? ⟨b, off + j, none⟩ = some (.int .u8 x))
theorem BytesIn.nil (B : Nat) (W : World) : BytesIn B W (.slice none 0 0) [] := ⟨none, 0, rfl, Nat.le_refl _, by decide, fun _ => rfl, fun x h => (by cases h), fun h => absurd h (by decide)⟩
theorem BytesAt.within {W : World} {v : Value} {xs : List Nat} (h : BytesAt W v xs) : BytesIn W.heap.size W v xs := h
theorem BytesIn.at_ {B : Nat} {W : World} {v : Value} {xs : List Nat} (h : BytesIn B W v xs) (hB : B ≤ W.heap.size) : BytesAt W v xs := by
  obtain ⟨A, c, h1, h2, h3, h4, h5, h6⟩ := h
  refine ⟨A, c, h1, h2, h3, h4, h5, fun hn => ?_⟩
  obtain ⟨b, off, e, hlt, hc⟩ := h6 hn
  exact ⟨b, off, e, by omega, hc⟩
theorem BytesIn.keep {B : Nat} {W W' : World} {v : Value} {xs : List Nat} (h : BytesIn B W v xs) (hb : Below B W W') : BytesIn B W' v xs := by
  obtain ⟨A, c, h1, h2, h3, h4, h5, h6⟩ := h
  refine ⟨A, c, h1, h2, h3, h4, h5, fun hn => ?_⟩
  obtain ⟨b, off, e, hlt, hc⟩ := h6 hn
  exact ⟨b, off, e, hlt, fun j x hx => (hb.cell (p := ⟨b, off + j, none⟩) hlt).trans (hc j x hx)⟩
theorem BytesIn.end_ {B : Nat} {W : World} {A : Option Addr} {n c : Nat} {bs : List Nat} (h : BytesIn B W (.slice A n c) bs) {k : Nat} (hk : k ≤ bs.length) (hc : c = k) : BytesIn B W (.slice A (n - k) 0) (bs.drop k) := by
  obtain ⟨A0, c0, e, h2, h3, h4, h5, h6⟩ := h
  injection e with e1 e2 e3
  subst e1 e2 e3
  subst hc
  have e : bs.drop c = [] := List.drop_of_length_le h2
  rw [e, show bs.length - c = 0 by omega]
  exact ⟨A, 0, rfl, Nat.le_refl _, by decide, fun _ => rfl, fun x h => (by cases h), fun h => absurd h (by decide)⟩
theorem BytesIn.more {B : Nat} {W : World} {b off n c : Nat} {bs : List Nat} (h : BytesIn B W (.slice (some ⟨b, off, none⟩) n c) bs) {k : Nat} (hk : k ≤ bs.length) : BytesIn B W (.slice (some ⟨b, off + k, none⟩) (n - k) (c - k)) (bs.drop k) := by
  obtain ⟨A0, c0, e, h2, h3, h4, h5, h6⟩ := h
  injection e with e1 e2 e3
  subst e1 e2 e3
  refine ⟨some ⟨b, off + k, none⟩, c - k, by rw [List.length_drop], by rw [List.length_drop]; omega, by omega, (fun h => by cases h), fun x hx => h5 x (List.mem_of_mem_drop hx), fun hp => ?_⟩
  rw [List.length_drop] at hp
  obtain ⟨b', off', e, hlt, hc⟩ := h6 (by omega)
  injection e with e
  injection e with e1 e2 _
  subst e1 e2
  refine ⟨b, off + k, rfl, hlt, fun j x hx => ?_⟩
  rw [List.getElem?_drop] at hx
  rw [Nat.add_assoc]
  exact hc _ x hx
end Go.Proofs.Ytaffcpjhaacadaa
