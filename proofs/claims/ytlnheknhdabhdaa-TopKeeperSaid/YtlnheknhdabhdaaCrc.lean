/-
  Numbers alone: the checksum of bytes; two bytes lists that differ in one byte have different checksums.
  Conditions: none.
-/
import Derived.Test.YtlnheknhdabhdaaProg
set_option linter.unusedVariables false
namespace Go.Proofs.Ytlnheknhdabhdaa

/-- A remainder, doubled. -/
def dbl (r : Nat) : Nat := if 128 ≤ r then (2 * r - 256) ^^^ 7 else 2 * r
def dbls : Nat → Nat → Nat
  | 0, r => r
  | k + 1, r => dbl (dbls k r)
/-- One byte more. -/
def stepT (r x : Nat) : Nat := dbls 8 (r ^^^ x)
def foldT (g : Nat → Nat → Nat) : Nat → List Nat → Nat
  | r, [] => r
  | r, x :: xs => foldT g (g r x) xs
def crc (xs : List Nat) : Nat := foldT stepT 0 xs

theorem dbl_great {r : Nat} (h : 128 ≤ r) : dbl r = (2 * r - 256) ^^^ 7 := if_pos h
theorem dbl_small {r : Nat} (h : r < 128) : dbl r = 2 * r := if_neg (by omega)
theorem dbl_lt : ∀ r, r < 256 → dbl r < 256 := by decide +kernel
def undbl (y : Nat) : Nat := if y % 2 = 1 then (y ^^^ 7) / 2 + 128 else y / 2
theorem undbl_dbl : ∀ r, r < 256 → undbl (dbl r) = r := by decide +kernel
theorem dbl_inj {a b : Nat} (ha : a < 256) (hb : b < 256) (h : dbl a = dbl b) : a = b := by
  rw [← undbl_dbl a ha, ← undbl_dbl b hb, h]
theorem dbls_lt : ∀ k r, r < 256 → dbls k r < 256
  | 0, _, h => h
  | k + 1, r, h => dbl_lt _ (dbls_lt k r h)
theorem dbls_inj : ∀ k {a b : Nat}, a < 256 → b < 256 → dbls k a = dbls k b → a = b
  | 0, _, _, _, _, h => h
  | k + 1, _, _, ha, hb, h => dbls_inj k ha hb (dbl_inj (dbls_lt k _ ha) (dbls_lt k _ hb) h)
theorem xor_lt {a b : Nat} (ha : a < 256) (hb : b < 256) : a ^^^ b < 256 := Nat.xor_lt_two_pow (n := 8) ha hb
theorem xor_left {a b x : Nat} (h : a ^^^ x = b ^^^ x) : a = b := by
  have e : ∀ c : Nat, (c ^^^ x) ^^^ x = c := fun c => by rw [Nat.xor_assoc, Nat.xor_self, Nat.xor_zero]
  rw [← e a, ← e b, h]
theorem xor_right {a b x : Nat} (h : x ^^^ a = x ^^^ b) : a = b := by
  rw [Nat.xor_comm x a, Nat.xor_comm x b] at h
  exact xor_left h

theorem stepT_lt {r x : Nat} (hr : r < 256) (hx : x < 256) : stepT r x < 256 := dbls_lt 8 _ (xor_lt hr hx)
theorem stepT_left {a b x : Nat} (ha : a < 256) (hb : b < 256) (hx : x < 256) (h : stepT a x = stepT b x) : a = b := xor_left (dbls_inj 8 (xor_lt ha hx) (xor_lt hb hx) h)
theorem stepT_right {r x y : Nat} (hr : r < 256) (hx : x < 256) (hy : y < 256) (h : stepT r x = stepT r y) : x = y := xor_right (dbls_inj 8 (xor_lt hr hx) (xor_lt hr hy) h)

section
variable {g : Nat → Nat → Nat} (g1 : ∀ {r x}, r < 256 → x < 256 → g r x < 256) (g2 : ∀ {a b x}, a < 256 → b < 256 → x < 256 → g a x = g b x → a = b) (g3 : ∀ {r x y}, r < 256 → x < 256 → y < 256 → g r x = g r y → x = y)
include g1 in
theorem foldT_lt : ∀ (xs : List Nat) (r : Nat), r < 256 → (∀ x ∈ xs, x < 256) → foldT g r xs < 256
  | [], _, h, _ => h
  | x :: xs, r, h, hx => foldT_lt xs _ (g1 h (hx x (by simp))) (fun y hy => hx y (by simp [hy]))
theorem foldT_append : ∀ (xs ys : List Nat) (r : Nat), foldT g r (xs ++ ys) = foldT g (foldT g r xs) ys
  | [], _, _ => rfl
  | x :: xs, ys, r => foldT_append xs ys _
include g1 g2 in
theorem foldT_inj : ∀ (xs : List Nat) {a b : Nat}, a < 256 → b < 256 → (∀ x ∈ xs, x < 256) → foldT g a xs = foldT g b xs → a = b
  | [], _, _, _, _, _, h => h
  | x :: xs, a, b, ha, hb, hx, h => by
    have h0 := hx x (by simp)
    exact g2 ha hb h0 (foldT_inj xs (g1 ha h0) (g1 hb h0) (fun y hy => hx y (by simp [hy])) h)
include g1 g2 g3 in
theorem foldT_set : ∀ (xs : List Nat) (k y r : Nat), r < 256 → (∀ x ∈ xs, x < 256) → y < 256 → k < xs.length → foldT g r (xs.set k y) = foldT g r xs → xs[k]? = some y
  | [], k, _, _, _, _, _, h, _ => absurd h (Nat.not_lt_zero k)
  | x :: xs, 0, y, r, hr, hx, hy, _, h => by
    have h0 := hx x (by simp)
    have hxs : ∀ z ∈ xs, z < 256 := fun z hz => hx z (by simp [hz])
    have e := g3 hr hy h0 (foldT_inj g1 g2 xs (g1 hr hy) (g1 hr h0) hxs h)
    rw [e]
    rfl
  | x :: xs, k + 1, y, r, hr, hx, hy, hk, h => by
    have h0 := hx x (by simp)
    have hxs : ∀ z ∈ xs, z < 256 := fun z hz => hx z (by simp [hz])
    have := foldT_set xs k y _ (g1 hr h0) hxs hy (by simpa using hk) h
    simpa using this
end
theorem crc_lt {xs : List Nat} (h : ∀ x ∈ xs, x < 256) : crc xs < 256 := foldT_lt stepT_lt xs 0 (by decide) h
theorem crc_nil : crc [] = 0 := rfl
theorem foldT_one {g : Nat → Nat → Nat} (r x : Nat) : foldT g r [x] = g r x := rfl
theorem crc_take {xs : List Nat} {k x : Nat} (h : xs[k]? = some x) : crc (xs.take (k + 1)) = stepT (crc (xs.take k)) x := by
  rw [List.take_add_one, h, Option.toList_some]
  unfold crc
  rw [foldT_append, foldT_one]
theorem stepT_eq (r x : Nat) : stepT r x = dbls 8 (r ^^^ x) := rfl
/-- One byte is another one. -/
theorem crc_set {xs : List Nat} {k y : Nat} (hx : ∀ x ∈ xs, x < 256) (hy : y < 256) (hk : k < xs.length) (h : crc (xs.set k y) = crc xs) : xs[k]? = some y :=
  foldT_set stepT_lt stepT_left stepT_right xs k y 0 (by decide) hx hy hk h

/-- The record of a body. -/
def sealT (xs : List Nat) : List Nat := (xs.length :: xs) ++ [crc (xs.length :: xs)]
theorem sealT_length (xs : List Nat) : (sealT xs).length = xs.length + 2 := by simp [sealT]
theorem head_bytes {xs : List Nat} (hl : xs.length ≤ 120) (hx : ∀ x ∈ xs, x < 256) : ∀ x ∈ xs.length :: xs, x < 256 := by
  intro x h
  rcases List.mem_cons.1 h with rfl | h
  · omega
  · exact hx x h
theorem sealT_bytes {xs : List Nat} (hl : xs.length ≤ 120) (hx : ∀ x ∈ xs, x < 256) : ∀ x ∈ sealT xs, x < 256 := by
  intro x h
  rcases List.mem_append.1 h with h | h
  · exact head_bytes hl hx x h
  · rw [List.mem_singleton.1 h]
    exact crc_lt (head_bytes hl hx)

/-- How many bytes the first record has, and whether it is right. -/
def firstT : List Nat → Nat × Bool
  | [] => (0, false)
  | n :: r => if n < 1 ∨ 120 < n then (1, false) else if r.length + 1 < n + 2 then (r.length + 1, false) else (n + 2, crc ((n :: r).take (n + 1)) == (n :: r).getD (n + 1) 0)
theorem firstT_cons (n : Nat) (r : List Nat) : firstT (n :: r) = if n < 1 ∨ 120 < n then (1, false) else if r.length + 1 < n + 2 then (r.length + 1, false) else (n + 2, crc ((n :: r).take (n + 1)) == (n :: r).getD (n + 1) 0) := rfl
theorem firstT_le {b : List Nat} (h : 0 < b.length) : 1 ≤ (firstT b).1 ∧ (firstT b).1 ≤ b.length := by
  cases b with
  | nil => exact absurd h (by decide)
  | cons n r =>
    rw [firstT_cons, List.length_cons]
    by_cases h1 : n < 1 ∨ 120 < n
    · rw [if_pos h1]; exact ⟨Nat.le_refl _, by show 1 ≤ _; omega⟩
    · rw [if_neg h1]
      by_cases h2 : r.length + 1 < n + 2
      · rw [if_pos h2]; exact ⟨by show 1 ≤ r.length + 1; omega, Nat.le_refl _⟩
      · rw [if_neg h2]; exact ⟨by show 1 ≤ n + 2; omega, by show n + 2 ≤ _; omega⟩
theorem firstT_body {b : List Nat} (h : (firstT b).2 = true) : 3 ≤ (firstT b).1 ∧ (firstT b).1 ≤ 122 ∧ 0 < b.length := by
  cases b with
  | nil => cases h
  | cons n r =>
    rw [firstT_cons] at h ⊢
    by_cases h1 : n < 1 ∨ 120 < n
    · rw [if_pos h1] at h; cases h
    · rw [if_neg h1] at h ⊢
      by_cases h2 : r.length + 1 < n + 2
      · rw [if_pos h2] at h; cases h
      · rw [if_neg h2]; exact ⟨by show 3 ≤ n + 2; omega, by show n + 2 ≤ 122; omega, by simp⟩

structure Rc where
  at_ : Nat
  len : Nat
  ok : Bool
  body : List Nat
/-- The record that begins at 'at_' of bytes. -/
def rcT (b : List Nat) (a : Nat) : Rc := ⟨a, (firstT (b.drop a)).1, (firstT (b.drop a)).2, if (firstT (b.drop a)).2 then (b.drop (a + 1)).take ((firstT (b.drop a)).1 - 2) else []⟩
/-- The records of bytes from 'a' on. -/
def splitT (b : List Nat) (a : Nat) : List Rc :=
  if h : a < b.length then rcT b a :: splitT b (a + (firstT (b.drop a)).1) else []
termination_by b.length - a
decreasing_by
  have := firstT_le (b := b.drop a) (by rw [List.length_drop]; omega)
  omega
theorem splitT_end {b : List Nat} {a : Nat} (h : b.length ≤ a) : splitT b a = [] := by rw [splitT, dif_neg (by omega)]
theorem splitT_more {b : List Nat} {a : Nat} (h : a < b.length) : splitT b a = rcT b a :: splitT b (a + (rcT b a).len) := by rw [splitT, dif_pos h]; rfl
theorem rcT_len {b : List Nat} {a : Nat} (h : a < b.length) : 1 ≤ (rcT b a).len ∧ a + (rcT b a).len ≤ b.length := by
  have h1 : 0 < (b.drop a).length := by rw [List.length_drop]; omega
  have := firstT_le h1
  rw [List.length_drop] at this
  refine ⟨this.1, ?_⟩
  show a + (firstT (b.drop a)).1 ≤ _
  omega
theorem splitT_length (b : List Nat) : ∀ k a, b.length - a ≤ k → (splitT b a).length ≤ b.length - a := by
  intro k
  induction k with
  | zero => intro a h; rw [splitT_end (by omega)]; simp
  | succ k ih =>
    intro a h
    rcases Nat.lt_or_ge a b.length with h1 | h1
    · have h2 := rcT_len h1
      rw [splitT_more h1, List.length_cons]
      have := ih (a + (rcT b a).len) (by omega)
      omega
    · rw [splitT_end h1]; simp
end Go.Proofs.Ytlnheknhdabhdaa
