/-
  Numbers alone: the bytes of a number, and what bytes begin with.
  Conditions: none.
-/
import Derived.Test.YtaffcpjhaacadaaNums
set_option linter.unusedVariables false
namespace Go.Proofs.Ytaffcpjhaacadaa

/-- The bytes of a number: groups of seven bits, the least ones first, 128 more on each but the last. -/
def enc (n : Nat) : List Nat := if n < 128 then [n] else (128 + n % 128) :: enc (n / 128)
termination_by n
decreasing_by omega

theorem enc_small {n : Nat} (h : n < 128) : enc n = [n] := by rw [enc, if_pos h]
theorem enc_great {n : Nat} (h : 128 ≤ n) : enc n = (128 + n % 128) :: enc (n / 128) := by rw [enc, if_neg (by omega)]
theorem enc_pos (n : Nat) : 0 < (enc n).length := by
  rcases Nat.lt_or_ge n 128 with h | h
  · rw [enc_small h]; simp
  · rw [enc_great h]; simp
theorem enc_byte : ∀ (k n : Nat), n ≤ k → ∀ x ∈ enc n, x < 256 := by
  intro k
  induction k with
  | zero =>
    intro n hn x hx
    rw [enc_small (by omega)] at hx
    simp at hx
    omega
  | succ k ih =>
    intro n hn x hx
    rcases Nat.lt_or_ge n 128 with h | h
    · rw [enc_small h] at hx
      simp at hx
      omega
    · rw [enc_great h] at hx
      rcases List.mem_cons.1 hx with rfl | hx
      · omega
      · exact ih (n / 128) (by omega) x hx
theorem enc_bytes (n : Nat) : ∀ x ∈ enc n, x < 256 := enc_byte n n (Nat.le_refl _)
theorem enc_length : ∀ (i n : Nat), n < 128 ^ (i + 1) → (enc n).length ≤ i + 1 := by
  intro i
  induction i with
  | zero => intro n h; rw [enc_small (by simpa using h)]; simp
  | succ i ih =>
    intro n h
    rcases Nat.lt_or_ge n 128 with h1 | h1
    · rw [enc_small h1]; simp
    · rw [enc_great h1]
      have : n / 128 < 128 ^ (i + 1) := by
        rw [Nat.div_lt_iff_lt_mul (by decide)]
        rw [Nat.pow_succ] at h
        exact h
      have := ih _ this
      simp
      omega
theorem enc_ten {n : Nat} (h : n < 18446744073709551616) : (enc n).length ≤ 10 := enc_length 9 n (Nat.lt_of_lt_of_le h (by decide))

/-- What bytes begin with: the number, and how many bytes it has; none if they begin with no number. -/
def lead : Nat → Nat → List Nat → Nat × Nat
  | _, _, [] => (0, 0)
  | i, acc, x :: r =>
    if 10 ≤ i then (0, 0)
    else if 128 ≤ x then lead (i + 1) (acc + (x - 128) * 128 ^ i) r
    else if (0 < i ∧ x = 0) ∨ (i = 9 ∧ 1 < x) then (0, 0)
    else (acc + x * 128 ^ i, i + 1)
theorem lead_nil (i acc : Nat) : lead i acc [] = (0, 0) := by unfold lead; rfl
theorem lead_ten {i acc : Nat} (h : 10 ≤ i) (l : List Nat) : lead i acc l = (0, 0) := by
  cases l with
  | nil => exact lead_nil i acc
  | cons x r => unfold lead; rw [if_pos h]
theorem lead_more {i acc x : Nat} {r : List Nat} (hi : i < 10) (h : 128 ≤ x) : lead i acc (x :: r) = lead (i + 1) (acc + (x - 128) * 128 ^ i) r := by
  conv => lhs; unfold lead
  rw [if_neg (by omega), if_pos h]
theorem lead_bad {i acc x : Nat} {r : List Nat} (hi : i < 10) (h : x < 128) (hb : (0 < i ∧ x = 0) ∨ (i = 9 ∧ 1 < x)) : lead i acc (x :: r) = (0, 0) := by
  unfold lead
  rw [if_neg (by omega), if_neg (by omega), if_pos hb]
theorem lead_last {i acc x : Nat} {r : List Nat} (hi : i < 10) (h : x < 128) (hb : ¬ ((0 < i ∧ x = 0) ∨ (i = 9 ∧ 1 < x))) : lead i acc (x :: r) = (acc + x * 128 ^ i, i + 1) := by
  unfold lead
  rw [if_neg (by omega), if_neg (by omega), if_neg hb]

theorem pow_ge {i : Nat} (h : 10 ≤ i) : 18446744073709551616 ≤ 128 ^ i :=
  Nat.le_trans (by decide) (Nat.pow_le_pow_right (by decide) h)
theorem mul_room {m i : Nat} (h : m * 128 ^ i < 18446744073709551616) (hm : 0 < m) : i < 10 := by
  rcases Nat.lt_or_ge i 10 with h1 | h1
  · exact h1
  · have := pow_ge h1
    have := Nat.le_mul_of_pos_left (128 ^ i) hm
    omega
theorem nine_small {m : Nat} (h : m * 128 ^ 9 < 18446744073709551616) : m ≤ 1 := by
  have : (128 : Nat) ^ 9 = 9223372036854775808 := by decide
  rw [this] at h
  omega

/-- A number's bytes, read. -/
theorem lead_enc (ys : List Nat) : ∀ (k m i acc : Nat), m ≤ k → m * 128 ^ i < 18446744073709551616 → i < 10 → (0 < i → 0 < m) → lead i acc (enc m ++ ys) = (acc + m * 128 ^ i, i + (enc m).length) := by
  intro k
  induction k with
  | zero =>
    intro m i acc hk h hi h0
    have : m = 0 := by omega
    subst this
    have : i = 0 := by omega
    subst this
    rw [enc_small (by decide)]
    rw [show [0] ++ ys = 0 :: ys from rfl, lead_last (by decide) (by decide) (by omega)]
    rfl
  | succ k ih =>
    intro m i acc hk h hi h0
    rcases Nat.lt_or_ge m 128 with h1 | h1
    · rw [enc_small h1, show [m] ++ ys = m :: ys from rfl]
      rw [lead_last hi h1 (by
        rintro (⟨h2, h3⟩ | ⟨h2, h3⟩)
        · have := h0 h2; omega
        · subst h2
          have := nine_small h
          omega)]
      rfl
    · rw [enc_great h1, List.cons_append, lead_more hi (by omega)]
      have e1 : m / 128 * 128 ^ (i + 1) = m / 128 * 128 * 128 ^ i := by rw [Nat.pow_succ, Nat.mul_comm (128 ^ i) 128, Nat.mul_assoc]
      have e2 : m = m % 128 + m / 128 * 128 := by omega
      have e3 : m * 128 ^ i = m % 128 * 128 ^ i + m / 128 * 128 ^ (i + 1) := by
        conv => lhs; rw [e2]
        rw [e1, Nat.add_mul]
      have hm0 : 0 < m / 128 := by omega
      have hlt : m / 128 * 128 ^ (i + 1) < 18446744073709551616 := by omega
      rw [ih (m / 128) (i + 1) _ (by omega) hlt (mul_room hlt hm0) (fun _ => hm0)]
      have e4 : 128 + m % 128 - 128 = m % 128 := by omega
      rw [e4, List.length_cons, e3, Nat.add_assoc acc]
      exact Prod.ext rfl (by show i + 1 + _ = i + (_ + 1); omega)
theorem lead_read {n : Nat} (h : n < 18446744073709551616) (ys : List Nat) : lead 0 0 (enc n ++ ys) = (n, (enc n).length) := by
  have := lead_enc ys n n 0 0 (Nat.le_refl _) (by simpa using h) (by decide) (fun h => absurd h (by decide))
  simpa using this

/-- No number's bytes begin with another one's. -/
theorem enc_prefix {a b : Nat} (ha : a < 18446744073709551616) (hb : b < 18446744073709551616) {k : Nat} (hk : k = min (enc a).length (enc b).length) (h : (enc a).take k = (enc b).take k) : a = b := by
  rcases Nat.le_total (enc a).length (enc b).length with hl | hl
  · have hk' : k = (enc a).length := by omega
    rw [hk', List.take_length] at h
    have e := lead_read ha ((enc b).drop (enc a).length)
    have e1 : enc a ++ (enc b).drop (enc a).length = enc b := by
      conv => lhs; rw [h]
      rw [← h]
      conv => rhs; rw [← List.take_append_drop (enc a).length (enc b), ← h]
    rw [e1] at e
    have e2 := lead_read hb []
    rw [List.append_nil, e] at e2
    exact (Prod.mk.inj e2).1
  · have hk' : k = (enc b).length := by omega
    rw [hk', List.take_length] at h
    have e := lead_read hb ((enc a).drop (enc b).length)
    have e1 : enc b ++ (enc a).drop (enc b).length = enc a := by
      conv => rhs; rw [← List.take_append_drop (enc b).length (enc a), h]
    rw [e1] at e
    have e2 := lead_read ha []
    rw [List.append_nil, e] at e2
    exact ((Prod.mk.inj e2).1).symm
theorem enc_inj {a b : Nat} (ha : a < 18446744073709551616) (hb : b < 18446744073709551616) (h : enc a = enc b) : a = b :=
  enc_prefix ha hb rfl (by rw [h])

/-- The bytes of numbers, one behind the other. -/
def encs (l : List Nat) : List Nat := l.flatMap enc
theorem encs_nil : encs [] = [] := rfl
theorem encs_cons (n : Nat) (l : List Nat) : encs (n :: l) = enc n ++ encs l := by simp [encs]
theorem encs_snoc (l : List Nat) (n : Nat) : encs (l ++ [n]) = encs l ++ enc n := by simp [encs]
theorem encs_length : ∀ (l : List Nat), (∀ n ∈ l, n < 18446744073709551616) → (encs l).length ≤ l.length * 10
  | [], _ => by simp [encs]
  | n :: l, h => by
    rw [encs_cons, List.length_append, List.length_cons]
    have h1 := enc_ten (h n (by simp))
    have h2 := encs_length l (fun m hm => h m (by simp [hm]))
    omega
theorem encs_take {l : List Nat} {k n : Nat} (h : l[k]? = some n) : encs (l.take (k + 1)) = encs (l.take k) ++ enc n := by
  rw [List.take_add_one, h]
  exact encs_snoc _ _
theorem encs_drop {l : List Nat} {k n : Nat} (h : l[k]? = some n) : encs (l.drop k) = enc n ++ encs (l.drop (k + 1)) := by
  obtain ⟨hk, rfl⟩ := List.getElem?_eq_some_iff.1 h
  rw [List.drop_eq_getElem_cons hk, encs_cons]
end Go.Proofs.Ytaffcpjhaacadaa
