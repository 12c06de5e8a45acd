/-
  Rows as numbers: which are right, their bytes by runs, what bytes are; what a reader of runs has read so far.
  Conditions: none.
-/
import Derived.Test.YtaffcpjhaacadaaNumMath
set_option linter.unusedVariables false
namespace Go.Proofs.Ytaffcpjhaacadaa

/-- Is a number none of a row's? -/
def badN (n : Int) : Bool := decide (n < 0 ∨ 200 < n)
/-- Is a row right for m cores? -/
def okRow (m : Int) (r : List Int) : Bool := decide ((r.length : Int) = m) && !r.any badN
/-- Are rows right for m cores? -/
def rightW (m : Int) (R : List (List Int)) : Bool := decide ((1 ≤ m ∧ m ≤ 16) ∧ R.length ≤ 4096) && R.all (okRow m)
structure RightR (m : Int) (R : List (List Int)) : Prop where
  m1 : 1 ≤ m
  m16 : m ≤ 16
  len : R.length ≤ 4096
  row : ∀ r ∈ R, (r.length : Int) = m
  num : ∀ r ∈ R, ∀ n ∈ r, 0 ≤ n ∧ n ≤ 200
theorem okRow_iff {m : Int} {r : List Int} : okRow m r = true ↔ (r.length : Int) = m ∧ ∀ n ∈ r, 0 ≤ n ∧ n ≤ 200 := by
  unfold okRow
  rw [Bool.and_eq_true, decide_eq_true_iff, Bool.not_eq_true', List.any_eq_false]
  constructor
  · rintro ⟨h1, h2⟩
    refine ⟨h1, fun n hn => ?_⟩
    have := h2 n hn
    unfold badN at this
    simp at this
    omega
  · rintro ⟨h1, h2⟩
    refine ⟨h1, fun n hn => ?_⟩
    have := h2 n hn
    unfold badN
    simp
    omega
theorem rightW_iff {m : Int} {R : List (List Int)} : rightW m R = true ↔ RightR m R := by
  unfold rightW
  rw [Bool.and_eq_true, decide_eq_true_iff, List.all_eq_true]
  constructor
  · rintro ⟨⟨⟨h1, h2⟩, h3⟩, h4⟩
    exact ⟨h1, h2, h3, fun r hr => (okRow_iff.1 (h4 r hr)).1, fun r hr => (okRow_iff.1 (h4 r hr)).2⟩
  · rintro ⟨h1, h2, h3, h4, h5⟩
    exact ⟨⟨⟨h1, h2⟩, h3⟩, fun r hr => okRow_iff.2 ⟨h4 r hr, h5 r hr⟩⟩

/-- How many rows ahead are this one. -/
def runL (r : List Int) : List (List Int) → Nat
  | [] => 0
  | s :: l => if s = r then runL r l + 1 else 0
/-- The numbers of runs, behind a row. -/
def rest : Option (List Int) → List (List Int) → List Nat
  | _, [] => []
  | p, r :: l => if p = some r then rest p l else (runL r l + 1) :: (r.map Int.toNat ++ rest (some r) l)
/-- The numbers of rows for m cores. -/
def numsW (m : Int) (R : List (List Int)) : List Nat := m.toNat :: R.length :: rest none R
/-- Their bytes. -/
def encW (m : Int) (R : List (List Int)) : List Nat := encs (numsW m R)

theorem runL_le (r : List Int) : ∀ l, runL r l ≤ l.length
  | [] => Nat.le_refl _
  | s :: l => by
    unfold runL
    have := runL_le r l
    split
    · simp; omega
    · exact Nat.zero_le _
theorem runL_all (r : List Int) : ∀ (l : List (List Int)) (j : Nat), j < runL r l → l[j]? = some r
  | [], j, h => absurd h (Nat.not_lt_zero _)
  | s :: l, j, h => by
    unfold runL at h
    split at h
    · rename_i e
      subst e
      rcases j with _ | j
      · rfl
      · rw [List.getElem?_cons_succ]
        exact runL_all s l j (by omega)
    · exact absurd h (Nat.not_lt_zero _)
theorem runL_stop (r : List Int) : ∀ (l : List (List Int)), l[runL r l]? ≠ some r
  | [] => by simp [runL]
  | s :: l => by
    unfold runL
    split
    · rw [List.getElem?_cons_succ]; exact runL_stop r l
    · rename_i h
      simpa using h
theorem runL_is {r : List Int} {l : List (List Int)} {k : Nat} (h1 : ∀ j, j < k → l[j]? = some r) (h2 : l[k]? ≠ some r) : runL r l = k := by
  rcases Nat.lt_trichotomy (runL r l) k with h | h | h
  · exact absurd (h1 _ h) (runL_stop r l)
  · exact h
  · exact absurd (runL_all r l k h) h2
theorem runL_split (r : List Int) : ∀ l : List (List Int), l = List.replicate (runL r l) r ++ l.drop (runL r l)
  | [] => rfl
  | s :: l => by
    unfold runL
    split
    · rename_i e
      subst e
      rw [List.replicate_succ, List.cons_append, List.drop_succ_cons, ← runL_split s l]
    · rfl
theorem runL_rep (r : List Int) : ∀ n, runL r (List.replicate n r) = n
  | 0 => rfl
  | n + 1 => by
    rw [List.replicate_succ]
    unfold runL
    rw [if_pos rfl, runL_rep r n]

theorem rest_nil (p : Option (List Int)) : rest p [] = [] := by unfold rest; rfl
theorem rest_skip (r : List Int) (l : List (List Int)) : rest (some r) (r :: l) = rest (some r) l := by
  conv => lhs; unfold rest
  rw [if_pos rfl]
theorem rest_new {p : Option (List Int)} {r : List Int} (h : p ≠ some r) (l : List (List Int)) : rest p (r :: l) = (runL r l + 1) :: (r.map Int.toNat ++ rest (some r) l) := by
  conv => lhs; unfold rest
  rw [if_neg h]
theorem rest_drop (r : List Int) : ∀ l : List (List Int), rest (some r) l = rest none (l.drop (runL r l))
  | [] => by simp [rest, runL]
  | s :: l => by
    by_cases h : s = r
    · subst h
      rw [rest_skip, rest_drop s l]
      conv => rhs; unfold runL
      rw [if_pos rfl, List.drop_succ_cons]
    · rw [rest_new (by simpa using fun e => h e.symm)]
      conv => rhs; unfold runL
      rw [if_neg h, List.drop_zero, rest_new (by simp)]
theorem rest_head (r : List Int) (l : List (List Int)) : rest none (r :: l) = (runL r l + 1) :: (r.map Int.toNat ++ rest none (l.drop (runL r l))) := by
  rw [rest_new (by simp), rest_drop]
theorem rest_rep (s : List Int) : ∀ n, rest (some s) (List.replicate n s) = []
  | 0 => rest_nil _
  | n + 1 => by rw [List.replicate_succ, rest_skip, rest_rep s n]

/-- How many numbers there are. -/
theorem rest_length {m : Nat} : ∀ (p : Option (List Int)) (l : List (List Int)), (∀ r ∈ l, r.length = m) → (rest p l).length ≤ l.length * (m + 1)
  | p, [], _ => by rw [rest_nil]; simp
  | p, r :: l, h => by
    have h1 := h r (by simp)
    have h3 : (r :: l).length * (m + 1) = l.length * (m + 1) + (m + 1) := by rw [List.length_cons, Nat.succ_mul]
    by_cases hp : p = some r
    · subst hp
      rw [rest_skip]
      have := rest_length (some r) l (fun s hs => h s (by simp [hs]))
      omega
    · rw [rest_new hp, List.length_cons, List.length_append, List.length_map, h1]
      have := rest_length (some r) l (fun s hs => h s (by simp [hs]))
      omega
theorem rest_small {N : Nat} : ∀ (p : Option (List Int)) (l : List (List Int)), (∀ r ∈ l, ∀ n ∈ r, 0 ≤ n ∧ n ≤ 200) → l.length ≤ N → ∀ x ∈ rest p l, x ≤ N ∨ x ≤ 200
  | p, [], _, _, x, hx => by rw [rest_nil] at hx; cases hx
  | p, r :: l, h, hN, x, hx => by
    rw [List.length_cons] at hN
    by_cases hp : p = some r
    · subst hp
      rw [rest_skip] at hx
      exact rest_small (some r) l (fun s hs => h s (by simp [hs])) (by omega) x hx
    · rw [rest_new hp] at hx
      rcases List.mem_cons.1 hx with rfl | hx
      · have := runL_le r l
        exact .inl (by omega)
      · rcases List.mem_append.1 hx with hx | hx
        · obtain ⟨n, hn, rfl⟩ := List.mem_map.1 hx
          have := h r (by simp) n hn
          exact .inr (by omega)
        · exact rest_small (some r) l (fun s hs => h s (by simp [hs])) (by omega) x hx

theorem RightR.rowN {m : Int} {R : List (List Int)} (h : RightR m R) : ∀ r ∈ R, r.length = m.toNat := by
  intro r hr
  have := h.row r hr
  omega
theorem RightR.count {m : Int} {R : List (List Int)} (h : RightR m R) (p : Option (List Int)) : (rest p R).length ≤ 69632 := by
  have h1 := rest_length p R h.rowN
  have h2 := h.len
  have h3 : m.toNat ≤ 16 := by have := h.m16; omega
  have h4 : R.length * (m.toNat + 1) ≤ 4096 * 17 := Nat.mul_le_mul h2 (by omega)
  omega
theorem RightR.small {m : Int} {R : List (List Int)} (h : RightR m R) : ∀ x ∈ numsW m R, x < 4097 := by
  intro x hx
  have h1 := h.m16
  have h2 := h.len
  unfold numsW at hx
  rcases List.mem_cons.1 hx with rfl | hx
  · omega
  · rcases List.mem_cons.1 hx with rfl | hx
    · omega
    · rcases rest_small none R h.num h2 x hx with h | h <;> omega
theorem RightR.bytes {m : Int} {R : List (List Int)} (h : RightR m R) : (encW m R).length ≤ 700000 := by
  have h1 := encs_length (numsW m R) (fun n hn => by have := h.small n hn; omega)
  have h2 := h.count none
  unfold encW
  unfold numsW at h1 ⊢
  simp only [List.length_cons] at h1
  omega
theorem RightR.tail {m : Int} {r : List Int} {l : List (List Int)} (h : RightR m (r :: l)) : RightR m l :=
  ⟨h.m1, h.m16, by have := h.len; simp at this; omega, fun s hs => h.row s (by simp [hs]), fun s hs => h.num s (by simp [hs])⟩
theorem RightR.drop {m : Int} {l : List (List Int)} (h : RightR m l) (k : Nat) : RightR m (l.drop k) :=
  ⟨h.m1, h.m16, by have := h.len; rw [List.length_drop]; omega, fun s hs => h.row s (List.mem_of_mem_drop hs), fun s hs => h.num s (List.mem_of_mem_drop hs)⟩

/-- Bytes tell which numbers they are. -/
theorem encs_inj : ∀ {a b : List Nat}, (∀ x ∈ a, x < 18446744073709551616) → (∀ x ∈ b, x < 18446744073709551616) → encs a = encs b → a = b
  | [], [], _, _, _ => rfl
  | [], y :: b, _, _, h => by
    rw [encs_cons, encs_nil] at h
    have := enc_pos y
    have h2 := congrArg List.length h
    rw [List.length_append, List.length_nil] at h2
    omega
  | x :: a, [], _, _, h => by
    rw [encs_cons, encs_nil] at h
    have := enc_pos x
    have h2 := congrArg List.length h
    rw [List.length_append, List.length_nil] at h2
    omega
  | x :: a, y :: b, ha, hb, h => by
    rw [encs_cons, encs_cons] at h
    have hx := ha x (by simp)
    have hy := hb y (by simp)
    have h1 := numT_read (n := x) (m := 18446744073709551615) (by omega) hx (encs a)
    have h2 := numT_read (n := y) (m := 18446744073709551615) (by omega) hy (encs b)
    rw [h, h2] at h1
    obtain ⟨e1, e2, _⟩ : y = x ∧ encs b = encs a ∧ True := by
      injection h1 with e1 e2
      injection e2 with e2 _
      exact ⟨e1, e2, trivial⟩
    subst e1
    rw [encs_inj (fun z hz => ha z (by simp [hz])) (fun z hz => hb z (by simp [hz])) e2.symm]

theorem toNat_inj : ∀ {a b : List Int}, (∀ n ∈ a, 0 ≤ n) → (∀ n ∈ b, 0 ≤ n) → a.map Int.toNat = b.map Int.toNat → a = b := by
  intro a b ha hb h
  rw [← map_back ha, ← map_back hb, h]

theorem rest_inj {m : Int} : ∀ (f : Nat) {R S : List (List Int)}, R.length ≤ f → RightR m R → RightR m S → rest none R = rest none S → R = S
  | f, [], [], _, _, _, _ => rfl
  | f, [], s :: S, _, _, _, h => by rw [rest_nil, rest_head] at h; cases h
  | f, r :: R, [], _, _, _, h => by rw [rest_nil, rest_head] at h; cases h
  | 0, r :: R, _, hl, _, _, _ => by simp at hl
  | f + 1, r :: R, s :: S, hl, hR, hS, h => by
    rw [rest_head, rest_head] at h
    injection h with h1 h2
    have hk : runL r R = runL s S := by omega
    have l1 := hR.rowN r (by simp)
    have l2 := hS.rowN s (by simp)
    have h3 : (r.map Int.toNat).length = (s.map Int.toNat).length := by rw [List.length_map, List.length_map, l1, l2]
    obtain ⟨e1, e2⟩ := List.append_inj h2 h3
    have e : r = s := toNat_inj (fun n hn => (hR.num r (by simp) n hn).1) (fun n hn => (hS.num s (by simp) n hn).1) e1
    subst e
    have e3 := rest_inj f (by rw [List.length_drop]; simp at hl; omega) (hR.tail.drop _) (hS.tail.drop _) e2
    rw [runL_split r R, runL_split r S, e3, hk]
theorem encW_inj {m n : Int} {R S : List (List Int)} (hR : RightR m R) (hS : RightR n S) (h : encW m R = encW n S) : m = n ∧ R = S := by
  have h1 := encs_inj (fun x hx => by have := hR.small x hx; omega) (fun x hx => by have := hS.small x hx; omega) h
  unfold numsW at h1
  injection h1 with e1 e2
  injection e2 with _ e3
  have : m = n := by have := hR.m1; have := hS.m1; omega
  subst this
  exact ⟨rfl, rest_inj _ (Nat.le_refl _) hR hS e3⟩

/-- No right rows have these bytes. -/
def NoDec (bs : List Nat) : Prop := ∀ (m : Int) (R : List (List Int)), RightR m R → encW m R ≠ bs
/-- What bytes are: right rows that have them, or none have. -/
def IsDec (bs : List Nat) (m : Int) (R : List (List Int)) (ok : Bool) : Prop := (ok = true ∧ RightR m R ∧ encW m R = bs) ∨ (ok = false ∧ m = 0 ∧ R = [] ∧ NoDec bs)
theorem IsDec.unique {bs : List Nat} {m n : Int} {R S : List (List Int)} {p q : Bool} (h : IsDec bs m R p) (k : IsDec bs n S q) : m = n ∧ R = S ∧ p = q := by
  rcases h with ⟨rfl, h1, h2⟩ | ⟨rfl, rfl, rfl, h1⟩
  · rcases k with ⟨rfl, k1, k2⟩ | ⟨rfl, rfl, rfl, k1⟩
    · obtain ⟨e1, e2⟩ := encW_inj h1 k1 (h2.trans k2.symm)
      exact ⟨e1, e2, rfl⟩
    · exact absurd h2 (k1 _ _ h1)
  · rcases k with ⟨rfl, k1, k2⟩ | ⟨rfl, rfl, rfl, k1⟩
    · exact absurd k2 (h1 _ _ k1)
    · exact ⟨rfl, rfl, rfl⟩

/-- k numbers read, none above a limit: they, what is left, and the first error. -/
def rdL (lim : Nat) (bs : List Nat) (e : Int) : Nat → List Nat × List Nat × Int
  | 0 => ([], bs, e)
  | k + 1 => ((rdL lim bs e k).1 ++ [(numT (rdL lim bs e k).2.1 (rdL lim bs e k).2.2 lim).1], (numT (rdL lim bs e k).2.1 (rdL lim bs e k).2.2 lim).2)
theorem rdL_length (lim : Nat) (bs : List Nat) (e : Int) : ∀ k, (rdL lim bs e k).1.length = k
  | 0 => rfl
  | k + 1 => by
    unfold rdL
    rw [List.length_append, rdL_length lim bs e k]
    rfl
theorem rdL_le (lim : Nat) (bs : List Nat) (e : Int) : ∀ k, ∀ n ∈ (rdL lim bs e k).1, n ≤ lim
  | 0, n, h => by cases h
  | k + 1, n, h => by
    unfold rdL at h
    rcases List.mem_append.1 h with h | h
    · exact rdL_le lim bs e k n h
    · rw [List.mem_singleton] at h
      subst h
      exact numT_le _ _ _
theorem rdL_rest {lim : Nat} {bs : List Nat} {e : Int} (hb : ∀ x ∈ bs, x < 256) : ∀ k, ∀ x ∈ (rdL lim bs e k).2.1, x < 256
  | 0 => hb
  | k + 1 => numT_rest (rdL_rest hb k)
theorem rdL_len (lim : Nat) (bs : List Nat) (e : Int) : ∀ k, (rdL lim bs e k).2.1.length ≤ bs.length
  | 0 => Nat.le_refl _
  | k + 1 => Nat.le_trans (numT_len _ _ _) (rdL_len lim bs e k)
theorem rdL_good {lim : Nat} {bs : List Nat} {e : Int} (hb : ∀ x ∈ bs, x < 256) : ∀ {k}, (rdL lim bs e k).2.2 = 0 → e = 0 ∧ bs = encs (rdL lim bs e k).1 ++ (rdL lim bs e k).2.1
  | 0, h => ⟨h, rfl⟩
  | k + 1, h => by
    obtain ⟨h1, h2⟩ := numT_good (rdL_rest hb k) h
    obtain ⟨h3, h4⟩ := rdL_good hb h1
    refine ⟨h3, ?_⟩
    show bs = encs ((rdL lim bs e k).1 ++ [_]) ++ _
    rw [encs_snoc, List.append_assoc]
    conv => lhs; rw [h4, h2]
    rfl
theorem rdL_read {lim : Nat} (hlim : lim < 18446744073709551616) {l : List Nat} (h : ∀ n ∈ l, n ≤ lim) (t : List Nat) : ∀ k, k ≤ l.length → rdL lim (encs l ++ t) 0 k = (l.take k, encs (l.drop k) ++ t, 0)
  | 0, _ => rfl
  | k + 1, hk => by
    obtain ⟨n, hn⟩ := ex_at (xs := l) (k := k) (by omega)
    have hm := h n (List.mem_of_getElem? hn)
    unfold rdL
    rw [rdL_read hlim h t k (by omega)]
    simp only
    rw [encs_drop hn, List.append_assoc, numT_read hm (by omega), List.take_add_one, hn]
    rfl

/-- The last row, of those behind p. -/
def lastO : Option (List Int) → List (List Int) → Option (List Int)
  | p, [] => p
  | _, r :: l => lastO (some r) l
theorem lastO_get : ∀ (p : Option (List Int)) (l : List (List Int)), 0 < l.length → lastO p l = l[l.length - 1]?
  | p, [], h => absurd h (by decide)
  | p, [r], _ => rfl
  | p, r :: s :: l, _ => by
    show lastO (some r) (s :: l) = _
    rw [lastO_get (some r) (s :: l) (by simp)]
    simp
theorem lastO_rep (p : Option (List Int)) (l : List (List Int)) (s : List Int) (n : Nat) : lastO p (l ++ List.replicate (n + 1) s) = some s := by
  rw [lastO_get _ _ (by rw [List.length_append, List.length_replicate]; omega)]
  rw [List.length_append, List.length_replicate, List.getElem?_append_right (by omega)]
  rw [List.getElem?_replicate, if_pos (by omega)]
theorem runL_app {r s : List Int} : ∀ {l : List (List Int)} {n : Nat}, lastO (some r) l ≠ some s → runL r (l ++ List.replicate n s) = runL r l
  | [], 0, _ => rfl
  | [], n + 1, h => by
    have h' : ¬ s = r := fun e => h (by rw [e]; rfl)
    rw [List.nil_append, List.replicate_succ]
    unfold runL
    rw [if_neg h']
  | t :: l, n, h => by
    rw [List.cons_append]
    unfold runL
    by_cases e : t = r
    · subst e
      rw [if_pos rfl, if_pos rfl, runL_app (show lastO (some t) l ≠ some s from h)]
    · rw [if_neg e, if_neg e]
theorem rest_app {s : List Int} {n : Nat} : ∀ {p : Option (List Int)} {l : List (List Int)}, lastO p l ≠ some s → rest p (l ++ List.replicate (n + 1) s) = rest p l ++ ((n + 1) :: s.map Int.toNat)
  | p, [], h => by
    have h' : p ≠ some s := h
    rw [List.nil_append, List.replicate_succ, rest_new h', runL_rep, rest_rep, rest_nil, List.append_nil, List.nil_append]
  | p, r :: l, h => by
    have h' : lastO (some r) l ≠ some s := h
    rw [List.cons_append]
    by_cases e : p = some r
    · subst e
      rw [rest_skip, rest_skip, rest_app h']
    · rw [rest_new e, rest_new e, runL_app h', rest_app h', List.cons_append, List.append_assoc]

/-- Whatever right rows have the bytes begin with what was read; the bytes of what is left are left. -/
def Fits (m c : Nat) (bs : List Nat) (R : List (List Int)) (b : List Nat) (e : Int) : Prop :=
  ∀ (n : Int) (S : List (List Int)), RightR n S → encW n S = bs → n = m ∧ S.length = c ∧ e = 0 ∧ ∃ l, S = R ++ l ∧ b = encs (rest none l) ∧ ∀ x, lastO none R = some x → l[0]? ≠ some x
theorem fits_err {m c : Nat} {bs : List Nat} {R : List (List Int)} {b : List Nat} {e : Int} (h : Fits m c bs R b e) (he : e ≠ 0) : NoDec bs := fun n S h1 h2 => he (h n S h1 h2).2.2.1
theorem fits_start {bs : List Nat} : Fits (numT bs 0 16).1 (numT (numT bs 0 16).2.1 (numT bs 0 16).2.2 4096).1 bs [] (numT (numT bs 0 16).2.1 (numT bs 0 16).2.2 4096).2.1 (numT (numT bs 0 16).2.1 (numT bs 0 16).2.2 4096).2.2 := by
  intro n S h1 h2
  have hm := h1.m1
  have h16 := h1.m16
  have hl := h1.len
  subst h2
  unfold encW numsW
  rw [encs_cons, numT_read (by omega) (by omega), encs_cons]
  simp only
  rw [numT_read (by omega) (by omega)]
  exact ⟨by omega, rfl, rfl, S, rfl, rfl, fun x hx => by cases hx⟩
/-- What a run reads as. -/
theorem fits_run {m c : Nat} {bs : List Nat} {R : List (List Int)} {b : List Nat} {e : Int} (h : Fits m c bs R b e) (hlt : R.length < c) {n : Int} {S : List (List Int)} (h1 : RightR n S) (h2 : encW n S = bs) :
    ∃ (s : List Int) (l : List (List Int)), S = R ++ s :: l ∧ (∀ x, lastO none R = some x → s ≠ x) ∧ s.length = m ∧ (∀ x ∈ s, 0 ≤ x ∧ x ≤ 200) ∧
      numT b e (c - R.length) = (runL s l + 1, encs (s.map Int.toNat ++ rest none (l.drop (runL s l))), 0) ∧
      rdL 200 (encs (s.map Int.toNat ++ rest none (l.drop (runL s l)))) 0 m = (s.map Int.toNat, encs (rest none (l.drop (runL s l))), 0) := by
  obtain ⟨rfl, rfl, rfl, l, rfl, rfl, hx⟩ := h n S h1 h2
  rcases l with _ | ⟨s, l⟩
  · simp at hlt
  · have hs1 := h1.rowN s (by simp)
    have hs2 := h1.num s (by simp)
    have hr := runL_le s l
    have hlen := h1.len
    rw [List.length_append, List.length_cons] at hlen
    rw [Int.toNat_natCast] at hs1
    refine ⟨s, l, rfl, fun x hx' e => hx x hx' (by rw [e]; rfl), hs1, hs2, ?_, ?_⟩
    · rw [rest_head, encs_cons]
      exact numT_read (by rw [List.length_append, List.length_cons]; omega) (by omega) _
    · have e1 : encs (s.map Int.toNat ++ rest none (l.drop (runL s l))) = encs (s.map Int.toNat) ++ encs (rest none (l.drop (runL s l))) := by simp [encs]
      have hle : ∀ x ∈ s.map Int.toNat, x ≤ 200 := by
        intro x hx'
        obtain ⟨y, hy, rfl⟩ := List.mem_map.1 hx'
        have := hs2 y hy
        omega
      rw [e1, rdL_read (by decide) hle _ m (by rw [List.length_map]; omega)]
      rw [List.take_of_length_le (by rw [List.length_map]; omega), List.drop_of_length_le (by rw [List.length_map]; omega)]
      rfl
theorem fits_zero {m c : Nat} {bs : List Nat} {R : List (List Int)} {b : List Nat} {e : Int} (h : Fits m c bs R b e) (hlt : R.length < c) (h0 : (numT b e (c - R.length)).1 = 0) : NoDec bs := by
  intro n S h1 h2
  obtain ⟨s, l, _, _, _, _, h3, _⟩ := fits_run h hlt h1 h2
  rw [h3] at h0
  cases h0
/-- The row that is read. -/
def rowT (m lim : Nat) (b : List Nat) (e : Int) : List Int := (rdL 200 (numT b e lim).2.1 (numT b e lim).2.2 m).1.map fun n : Nat => (n : Int)
theorem fits_again {m c : Nat} {bs : List Nat} {R : List (List Int)} {b : List Nat} {e : Int} (h : Fits m c bs R b e) (hlt : R.length < c) (h0 : lastO none R = some (rowT m (c - R.length) b e)) : NoDec bs := by
  intro n S h1 h2
  obtain ⟨s, l, _, h3, _, h4, h5, h6⟩ := fits_run h hlt h1 h2
  refine h3 _ h0 ?_
  unfold rowT
  rw [h5]
  simp only
  rw [h6, map_back (fun x hx => (h4 x hx).1)]
theorem fits_step {m c : Nat} {bs : List Nat} {R : List (List Int)} {b : List Nat} {e : Int} (h : Fits m c bs R b e) (hlt : R.length < c) :
    Fits m c bs (R ++ List.replicate (numT b e (c - R.length)).1 (rowT m (c - R.length) b e)) (rdL 200 (numT b e (c - R.length)).2.1 (numT b e (c - R.length)).2.2 m).2.1 (rdL 200 (numT b e (c - R.length)).2.1 (numT b e (c - R.length)).2.2 m).2.2 := by
  intro n S h1 h2
  obtain ⟨s, l, h3, _, _, h4, h5, h6⟩ := fits_run h hlt h1 h2
  obtain ⟨e1, e2, _, _⟩ := h n S h1 h2
  unfold rowT
  rw [h5]
  simp only
  rw [h6, map_back (fun x hx => (h4 x hx).1)]
  refine ⟨e1, e2, rfl, l.drop (runL s l), ?_, rfl, fun x hx => ?_⟩
  · rw [h3, List.append_assoc, List.replicate_succ, List.cons_append, ← runL_split]
  · rw [lastO_rep] at hx
    cases hx
    rw [List.getElem?_drop, Nat.add_zero]
    exact runL_stop s l
theorem fits_end {m c : Nat} {bs : List Nat} {R : List (List Int)} {b : List Nat} {e : Int} (h : Fits m c bs R b e) (hlt : c ≤ R.length) {n : Int} {S : List (List Int)} (h1 : RightR n S) (h2 : encW n S = bs) : n = m ∧ S = R ∧ endI b e = 0 := by
  obtain ⟨rfl, rfl, rfl, l, rfl, rfl, _⟩ := h n S h1 h2
  rw [List.length_append] at hlt
  have : l = [] := List.eq_nil_of_length_eq_zero (by omega)
  subst this
  refine ⟨rfl, by simp, ?_⟩
  rw [rest_nil]
  rfl

/-- What was read well has these bytes; what is left is behind them. -/
structure Goes (m c : Nat) (bs : List Nat) (R : List (List Int)) (b : List Nat) (e : Int) : Prop where
  text : e = 0 → bs = encs (m :: c :: rest none R) ++ b
  row : ∀ r ∈ R, r.length = m
  num : ∀ r ∈ R, ∀ n ∈ r, 0 ≤ n ∧ n ≤ 200
  byte : ∀ x ∈ b, x < 256
theorem goes_start {bs : List Nat} (hb : ∀ x ∈ bs, x < 256) : Goes (numT bs 0 16).1 (numT (numT bs 0 16).2.1 (numT bs 0 16).2.2 4096).1 bs [] (numT (numT bs 0 16).2.1 (numT bs 0 16).2.2 4096).2.1 (numT (numT bs 0 16).2.1 (numT bs 0 16).2.2 4096).2.2 := by
  refine ⟨fun h => ?_, fun r hr => (by cases hr), fun r hr => (by cases hr), numT_rest (numT_rest hb)⟩
  obtain ⟨h1, h2⟩ := numT_good (numT_rest hb) h
  obtain ⟨_, h3⟩ := numT_good hb h1
  rw [encs_cons, encs_cons, rest_nil, encs_nil, List.append_nil, List.append_assoc, ← h2, ← h3]
theorem rowT_length (m lim : Nat) (b : List Nat) (e : Int) : (rowT m lim b e).length = m := by unfold rowT; rw [List.length_map, rdL_length]
theorem rowT_num (m lim : Nat) (b : List Nat) (e : Int) : ∀ n ∈ rowT m lim b e, 0 ≤ n ∧ n ≤ 200 := by
  intro n hn
  obtain ⟨x, hx, rfl⟩ := List.mem_map.1 hn
  have := rdL_le _ _ _ _ x hx
  omega
theorem goes_step {m c : Nat} {bs : List Nat} {R : List (List Int)} {b : List Nat} {e : Int} (h : Goes m c bs R b e) (lim : Nat) (h0 : (numT b e lim).1 ≠ 0) (ha : lastO none R ≠ some (rowT m lim b e)) :
    Goes m c bs (R ++ List.replicate (numT b e lim).1 (rowT m lim b e)) (rdL 200 (numT b e lim).2.1 (numT b e lim).2.2 m).2.1 (rdL 200 (numT b e lim).2.1 (numT b e lim).2.2 m).2.2 := by
  have hb := numT_rest (e := e) (m := lim) h.byte
  refine ⟨fun h1 => ?_, fun r hr => ?_, fun r hr => ?_, rdL_rest hb m⟩
  · obtain ⟨h2, h3⟩ := rdL_good hb h1
    obtain ⟨h4, h5⟩ := numT_good h.byte h2
    obtain ⟨k, hk⟩ : ∃ k, (numT b e lim).1 = k + 1 := ⟨(numT b e lim).1 - 1, by omega⟩
    rw [h.text h4]
    conv => lhs; rw [h5, h3]
    rw [hk, encs_cons, encs_cons, encs_cons, encs_cons, rest_app ha]
    have e1 : (rowT m lim b e).map Int.toNat = (rdL 200 (numT b e lim).2.1 (numT b e lim).2.2 m).1 := by unfold rowT; rw [map_toNat]
    have e2 : encs (rest none R ++ (k + 1) :: (rowT m lim b e).map Int.toNat) = encs (rest none R) ++ (enc (k + 1) ++ encs ((rowT m lim b e).map Int.toNat)) := by simp [encs]
    rw [e2, e1]
    simp only [List.append_assoc]
  · rcases List.mem_append.1 hr with hr | hr
    · exact h.row r hr
    · rw [(List.mem_replicate.1 hr).2]; exact rowT_length _ _ _ _
  · rcases List.mem_append.1 hr with hr | hr
    · exact h.num r hr
    · rw [(List.mem_replicate.1 hr).2]; exact rowT_num _ _ _ _
theorem goes_end {m : Nat} {bs : List Nat} {R : List (List Int)} {b : List Nat} {e : Int} (h : Goes m R.length bs R b e) (h0 : endI b e = 0) (hm : m ≠ 0) (h16 : m ≤ 16) (hc : R.length ≤ 4096) : IsDec bs m R true := by
  obtain ⟨rfl, rfl⟩ := endI_zero h0
  refine .inl ⟨rfl, ⟨by omega, by omega, hc, fun r hr => (by have := h.row r hr; omega), h.num⟩, ?_⟩
  have := h.text rfl
  rw [List.append_nil] at this
  unfold encW numsW
  rw [Int.toNat_natCast]
  exact this.symm
end Go.Proofs.Ytaffcpjhaacadaa
