/-
  Commands as eight numbers: the fields of each kind, the first wrong one, what is wrong with a command; its bytes, and what bytes are.
  Conditions: none.
-/
import Derived.Test.YtnddojngbolbfaaDoorReader
set_option linter.unusedVariables false
namespace Go.Proofs.YtnddojngbolbfaaDoor

/-- A link without its place in memory. -/
abbrev LKey := Int × ByteArray × Int
def cmdS : ByteArray := ⟨#[99, 109, 100]⟩
def fieldS : ByteArray := ⟨#[102, 105, 101, 108, 100]⟩

/-- The fields of a kind, in order: the numbers of the members of api.Cmd. -/
def fieldsT (op : Int) : Option (List Nat) :=
  if op = 9 then some [5, 4, 2, 1] else if op = 12 then some [2, 1]
  else if op = 2 then some [1] else if op = 4 then some [1] else if op = 5 then some [1] else if op = 17 then some [1]
  else if op = 1 then some [3, 1] else if op = 3 then some [3, 1]
  else if op = 10 then some [4, 1] else if op = 11 then some [5, 1]
  else if op = 6 then some [3, 2] else if op = 7 then some [3, 2]
  else if op = 8 then some [2] else if op = 13 then some [6] else if op = 14 then some [6]
  else if op = 16 then some [7] else if op = 15 then some [] else none

/-- The kinds. -/
def opsT : List Int := [9, 12, 2, 4, 5, 17, 1, 3, 10, 11, 6, 7, 8, 13, 14, 16, 15]

theorem fieldsT_out {op : Int} (h : ¬ op ∈ opsT) : fieldsT op = none := by
  unfold opsT at h
  simp only [List.mem_cons, List.not_mem_nil, or_false, not_or] at h
  obtain ⟨h0, h1, h2, h3, h4, h5, h6, h7, h8, h9, h10, h11, h12, h13, h14, h15, h16⟩ := h
  unfold fieldsT
  rw [if_neg h0, if_neg h1, if_neg h2, if_neg h3, if_neg h4, if_neg h5, if_neg h6, if_neg h7, if_neg h8, if_neg h9, if_neg h10, if_neg h11, if_neg h12, if_neg h13, if_neg h14, if_neg h15, if_neg h16]
theorem fieldsT_some {op : Int} {fs : List Nat} (h : fieldsT op = some fs) : op ∈ opsT := by
  by_cases hm : op ∈ opsT
  · exact hm
  · rw [fieldsT_out hm] at h; cases h
theorem fieldsT_none {op : Int} (h : fieldsT op = none) : ∀ k ∈ opsT, op ≠ k := by
  intro k hk e
  subst e
  have : ∀ k ∈ opsT, fieldsT k ≠ none := by decide
  exact this _ hk h
theorem fieldsT_lt {op : Int} {fs : List Nat} (h : fieldsT op = some fs) : ∀ j ∈ fs, 0 < j ∧ j < 8 := by
  have key : ∀ k ∈ opsT, ∀ fs, fieldsT k = some fs → ∀ j ∈ fs, 0 < j ∧ j < 8 := by decide +kernel
  exact key op (fieldsT_some h) fs h
theorem fieldsT_len {op : Int} {fs : List Nat} (h : fieldsT op = some fs) : fs.length ≤ 4 := by
  have key : ∀ k ∈ opsT, ∀ fs, fieldsT k = some fs → fs.length ≤ 4 := by decide +kernel
  exact key op (fieldsT_some h) fs h
theorem fieldsT_nodup {op : Int} {fs : List Nat} (h : fieldsT op = some fs) : fs.Nodup := by
  have key : ∀ k ∈ opsT, ∀ fs, fieldsT k = some fs → fs.Nodup := by decide +kernel
  exact key op (fieldsT_some h) fs h
theorem opsT_byte {op : Int} (h : op ∈ opsT) : 1 ≤ op ∧ op ≤ 17 := by
  have key : ∀ k ∈ opsT, 1 ≤ k ∧ k ≤ 17 := by decide
  exact key op h

/-- A command: its members by their numbers. -/
abbrev Cmd8 := Nat → Int
def updC (c : Cmd8) (j : Nat) (n : Int) : Cmd8 := fun k => if k = j then n else c k
def zeroC : Cmd8 := fun _ => 0
def opC (op : Int) : Cmd8 := fun k => if k = 0 then op else 0
/-- Are the eight members the same? -/
def eq8 (c d : Cmd8) : Bool := c 0 == d 0 && (c 1 == d 1 && (c 2 == d 2 && (c 3 == d 3 && (c 4 == d 4 && (c 5 == d 5 && (c 6 == d 6 && c 7 == d 7))))))
theorem eq8_iff {c d : Cmd8} : eq8 c d = true ↔ ∀ k, k < 8 → c k = d k := by
  unfold eq8
  simp only [Bool.and_eq_true, beq_iff_eq]
  constructor
  · rintro ⟨h0, h1, h2, h3, h4, h5, h6, h7⟩ k hk
    match k, hk with
    | 0, _ => exact h0
    | 1, _ => exact h1
    | 2, _ => exact h2
    | 3, _ => exact h3
    | 4, _ => exact h4
    | 5, _ => exact h5
    | 6, _ => exact h6
    | 7, _ => exact h7
  · intro h
    exact ⟨h 0 (by decide), h 1 (by decide), h 2 (by decide), h 3 (by decide), h 4 (by decide), h 5 (by decide), h 6 (by decide), h 7 (by decide)⟩
theorem eq8_self (c : Cmd8) : eq8 c c = true := eq8_iff.2 fun _ _ => rfl

/-- The first of n calls that answers an error: that, with its number. -/
def firstK (E : Nat → Int) : Nat → List LKey
  | 0 => []
  | n + 1 => if firstK E n = [] then (if E n = 0 then [] else [(E n, fieldS, ((n + 1 : Nat) : Int))]) else firstK E n
theorem firstK_none {E : Nat → Int} : ∀ {n : Nat}, (∀ i, i < n → E i = 0) → firstK E n = []
  | 0, _ => rfl
  | n + 1, h => by
    unfold firstK
    rw [if_pos (firstK_none fun i hi => h i (by omega)), if_pos (h n (by omega))]
theorem firstK_at {E : Nat → Int} {i : Nat} (h0 : ∀ j, j < i → E j = 0) (hi : E i ≠ 0) : ∀ {n : Nat}, i < n → firstK E n = [(E i, fieldS, ((i + 1 : Nat) : Int))]
  | 0, h => absurd h (Nat.not_lt_zero _)
  | n + 1, h => by
    unfold firstK
    by_cases e : i = n
    · subst e
      rw [if_pos (firstK_none h0), if_neg hi]
    · rw [firstK_at h0 hi (by omega : i < n), if_neg (by simp)]
theorem firstK_cases (E : Nat → Int) : ∀ n : Nat, (firstK E n = [] ∧ ∀ i, i < n → E i = 0) ∨ ∃ i, i < n ∧ E i ≠ 0 ∧ (∀ j, j < i → E j = 0) ∧ firstK E n = [(E i, fieldS, ((i + 1 : Nat) : Int))]
  | 0 => .inl ⟨rfl, fun i h => absurd h (Nat.not_lt_zero _)⟩
  | n + 1 => by
    rcases firstK_cases E n with ⟨h1, h2⟩ | ⟨i, hi, h1, h2, h3⟩
    · by_cases h : E n = 0
      · refine .inl ⟨?_, fun i hi => ?_⟩
        · unfold firstK; rw [if_pos h1, if_pos h]
        · rcases Nat.lt_or_ge i n with h' | h'
          · exact h2 i h'
          · rw [show i = n by omega]; exact h
      · exact .inr ⟨n, by omega, h, h2, firstK_at h2 h (by omega)⟩
    · exact .inr ⟨i, by omega, h1, h2, firstK_at h2 h1 (by omega)⟩

/-- The member that stands at a place of a list. -/
def atF (fs : List Nat) (i : Nat) : Nat := fs.getD i 0
theorem atF_eq {fs : List Nat} {i j : Nat} (h : fs[i]? = some j) : atF fs i = j := by
  unfold atF
  rw [List.getD_eq_getElem?_getD, h]
  rfl

def wrongN (n : Int) : Int := if n < 0 ∨ 2147483647 < n then 5 else 0
/-- All fields of a list taken away. -/
def bareC (c : Cmd8) (fs : List Nat) : Cmd8 := fun k => if k ∈ fs then 0 else c k
/-- The fields of a list alone. -/
def onlyC (c : Cmd8) (fs : List Nat) : Cmd8 := fun k => if k = 0 ∨ k ∈ fs then c k else 0
/-- What is wrong with a command (P11.1). -/
def checkK (c : Cmd8) : List LKey :=
  match fieldsT (c 0) with
  | none => [(1, cmdS, c 0)]
  | some fs =>
    if firstK (fun i => wrongN (c (atF fs i))) fs.length ≠ [] then (5, cmdS, c 0) :: firstK (fun i => wrongN (c (atF fs i))) fs.length
    else if eq8 (onlyC c fs) c then [] else [(1, cmdS, c 0)]

theorem bare_only {c : Cmd8} {fs : List Nat} (hf : ∀ j ∈ fs, 0 < j ∧ j < 8) : eq8 (bareC c fs) (opC (c 0)) = eq8 (onlyC c fs) c := by
  rw [Bool.eq_iff_iff, eq8_iff, eq8_iff]
  constructor
  · intro h k hk
    have := h k hk
    unfold bareC opC at this
    unfold onlyC
    by_cases h0 : k = 0
    · rw [if_pos (.inl h0)]
    · by_cases hm : k ∈ fs
      · rw [if_pos (.inr hm)]
      · rw [if_neg hm, if_neg h0] at this
        rw [if_neg (by simp [h0, hm]), this]
  · intro h k hk
    have := h k hk
    unfold onlyC at this
    unfold bareC opC
    by_cases h0 : k = 0
    · subst h0
      rw [if_neg (fun hm => absurd (hf 0 hm).1 (by decide)), if_pos rfl]
    · by_cases hm : k ∈ fs
      · rw [if_pos hm, if_neg h0]
      · rw [if_neg (by simp [h0, hm])] at this
        rw [if_neg hm, if_neg h0, this]

/-- The bytes of a right command. -/
def numsC (c : Cmd8) (fs : List Nat) : List Nat := fs.map fun j => (c j).toNat
def encC (c : Cmd8) : List Nat := (c 0).toNat :: encs (numsC c ((fieldsT (c 0)).getD []))
end Go.Proofs.YtnddojngbolbfaaDoor
