/-
  Replies as numbers: which are right, their bytes, which are alike; numbers read one behind the other; what bytes are.
  Conditions: none.
-/
import Derived.Test.YtkkaekcjinopkaaReadMath
set_option linter.unusedVariables false
namespace Go.Proofs.Ytkkaekcjinopkaa

/-- A reply. -/
structure Rep where
  e : Int
  p : Bool
  m : Int
  ns : List Int
theorem Rep.same {a b : Rep} (h1 : a.e = b.e) (h2 : a.p = b.p) (h3 : a.m = b.m) (h4 : a.ns = b.ns) : a = b := by
  obtain ⟨e, p, m, ns⟩ := a
  obtain ⟨e', p', m', ns'⟩ := b
  cases h1
  cases h2
  cases h3
  cases h4
  rfl
def zeroR : Rep := ⟨0, false, 0, []⟩

/-- How many numbers a reply with this error has at most. -/
def mostN (e : Int) : Nat := if e = 0 then 20 else if e = 3 then 2 else 0
/-- Are the numbers ahead right? -/
def headB (r : Rep) : Bool := decide ((0 ≤ r.e ∧ r.e ≤ 30) ∧ (0 ≤ r.m ∧ r.m ≤ 255))
/-- Is one of the numbers negative? -/
def negB (ns : List Int) : Bool := ns.any fun n => decide (n < 0)
/-- Is a reply right? -/
def rightB (r : Rep) : Bool := headB r && (decide (r.ns.length ≤ mostN r.e) && !negB r.ns && (decide (r.e = 0) || (!r.p && decide (r.m = 0))))
structure RightR (r : Rep) : Prop where
  e0 : 0 ≤ r.e
  e1 : r.e ≤ 30
  m0 : 0 ≤ r.m
  m1 : r.m ≤ 255
  len : r.ns.length ≤ mostN r.e
  pos : ∀ n ∈ r.ns, 0 ≤ n
  bad : r.e = 0 ∨ (r.p = false ∧ r.m = 0)
theorem negB_iff {ns : List Int} : negB ns = false ↔ ∀ n ∈ ns, 0 ≤ n := by
  unfold negB
  rw [List.any_eq_false]
  constructor
  · intro h n hn
    have := h n hn
    simp at this
    exact this
  · intro h n hn
    have := h n hn
    simp
    exact this
theorem rightB_iff {r : Rep} : rightB r = true ↔ RightR r := by
  unfold rightB headB
  simp only [Bool.and_eq_true, decide_eq_true_iff, Bool.or_eq_true, Bool.not_eq_true']
  rw [negB_iff]
  constructor
  · rintro ⟨⟨⟨h1, h2⟩, h3, h4⟩, ⟨h5, h6⟩, h7⟩
    exact ⟨h1, h2, h3, h4, h5, h6, h7⟩
  · rintro ⟨h1, h2, h3, h4, h5, h6, h7⟩
    exact ⟨⟨⟨h1, h2⟩, h3, h4⟩, ⟨h5, h6⟩, h7⟩
theorem mostN_le (e : Int) : mostN e ≤ 20 := by unfold mostN; split <;> (try split) <;> omega
theorem RightR.short {r : Rep} (h : RightR r) : r.ns.length ≤ 20 := Nat.le_trans h.len (mostN_le _)

/-- Are two replies alike? -/
def sameB (a b : Rep) : Bool := decide (a.e = b.e) && (decide (a.p = b.p) && (decide (a.m = b.m) && decide (a.ns = b.ns)))
theorem sameB_iff {a b : Rep} : sameB a b = true ↔ a = b := by
  unfold sameB
  simp only [Bool.and_eq_true, decide_eq_true_iff]
  constructor
  · rintro ⟨h1, h2, h3, h4⟩; exact Rep.same h1 h2 h3 h4
  · rintro rfl; exact ⟨rfl, rfl, rfl, rfl⟩
theorem sameB_self (a : Rep) : sameB a a = true := sameB_iff.2 rfl

def pN (p : Bool) : Nat := if p = true then 1 else 0
theorem pN_le (p : Bool) : pN p ≤ 1 := by unfold pN; split <;> omega
def numsR (r : Rep) : List Nat := r.e.toNat :: pN r.p :: r.m.toNat :: r.ns.length :: r.ns.map Int.toNat
/-- The bytes of a reply. -/
def encR (r : Rep) : List Nat := encs (numsR r)

/-- A right reply whose numbers are of their kind. -/
structure FitR (r : Rep) : Prop where
  right : rightB r = true
  small : ∀ n ∈ r.ns, n ≤ 9223372036854775807

theorem numsR_small {r : Rep} (h : FitR r) : ∀ n ∈ numsR r, n < 18446744073709551616 := by
  obtain ⟨hr, hs⟩ := h
  rw [rightB_iff] at hr
  have h1 := hr.short
  have h2 := pN_le r.p
  obtain ⟨a, b, c, d, _, f, _⟩ := hr
  intro n hn
  simp only [numsR, List.mem_cons] at hn
  rcases hn with rfl | rfl | rfl | rfl | hn
  · omega
  · omega
  · omega
  · omega
  · obtain ⟨x, hx, rfl⟩ := List.mem_map.1 hn
    have := hs x hx
    have := f x hx
    omega
theorem numsR_length (r : Rep) : (numsR r).length = r.ns.length + 4 := by simp [numsR]

/-- A number that is read well. -/
theorem numT_good {bs : List Nat} {e : Int} {m : Nat} (hb : ∀ x ∈ bs, x < 256) (h : (numT bs e m).2.2 = 0) : e = 0 ∧ bs = enc (numT bs e m).1 ++ (numT bs e m).2.1 := by
  unfold numT at h ⊢
  split
  · rename_i he
    rw [if_pos he] at h
    exact absurd h he
  · rename_i he
    rw [if_neg he] at h
    refine ⟨Classical.byContradiction he, ?_⟩
    split
    · rename_i h0
      rw [if_pos h0] at h
      exact absurd h (by decide)
    · rename_i h0
      rw [if_neg h0] at h
      split
      · rename_i hm
        rw [if_pos hm] at h
        exact absurd h (by decide)
      · obtain ⟨n, a1, a2, a3, a4, _⟩ := lead_back bs 0 0 _ _ hb rfl h0
        rw [Nat.sub_zero] at a2 a3
        rw [Nat.zero_add, Nat.pow_zero, Nat.mul_one] at a4
        show bs = enc (lead 0 0 bs).1 ++ bs.drop (lead 0 0 bs).2
        rw [a4, ← a3, List.take_append_drop]
theorem numT_le (bs : List Nat) (e : Int) (most : Nat) : (numT bs e most).1 ≤ most := by
  unfold numT
  split
  · exact Nat.zero_le _
  · split
    · exact Nat.zero_le _
    · split
      · exact Nat.zero_le _
      · show (lead 0 0 bs).1 ≤ most; omega
theorem numT_bad {bs : List Nat} {e : Int} (h : e ≠ 0) (most : Nat) : numT bs e most = (0, bs, e) := if_pos h
theorem numT_read {n m : Nat} (h : n ≤ m) (hm : n < 18446744073709551616) (r : List Nat) : numT (enc n ++ r) 0 m = (n, r, 0) := by
  have hl := lead_read hm r
  have hp := enc_pos n
  unfold numT
  rw [hl]
  simp only [ne_eq, not_true_eq_false, if_false]
  rw [if_neg (by omega), if_neg (by omega)]
  simp
theorem numT_rest {bs : List Nat} {e : Int} {m : Nat} (hb : ∀ x ∈ bs, x < 256) : ∀ x ∈ (numT bs e m).2.1, x < 256 := by
  unfold numT
  split
  · exact hb
  · split
    · intro x h; cases h
    · split
      · intro x h; cases h
      · exact fun x h => hb x (List.mem_of_mem_drop h)
theorem numT_len (bs : List Nat) (e : Int) (most : Nat) : (numT bs e most).2.1.length ≤ bs.length := by
  unfold numT
  split
  · exact Nat.le_refl _
  · split
    · simp
    · split
      · simp
      · show (bs.drop _).length ≤ _; simp

/-- The greatest number of a reply. -/
def maxI : Nat := 9223372036854775807
/-- k numbers read: they, what is left, and the first error. -/
def rdK (bs : List Nat) (e : Int) : Nat → List Nat × List Nat × Int
  | 0 => ([], bs, e)
  | k + 1 => ((rdK bs e k).1 ++ [(numT (rdK bs e k).2.1 (rdK bs e k).2.2 maxI).1], (numT (rdK bs e k).2.1 (rdK bs e k).2.2 maxI).2)
theorem rdK_length (bs : List Nat) (e : Int) : ∀ k, (rdK bs e k).1.length = k
  | 0 => rfl
  | k + 1 => by
    unfold rdK
    rw [List.length_append, rdK_length bs e k]
    rfl
theorem rdK_le (bs : List Nat) (e : Int) : ∀ k, ∀ n ∈ (rdK bs e k).1, n ≤ maxI
  | 0, n, h => by cases h
  | k + 1, n, h => by
    unfold rdK at h
    rcases List.mem_append.1 h with h | h
    · exact rdK_le bs e k n h
    · rw [List.mem_singleton] at h
      subst h
      exact numT_le _ _ _
theorem rdK_rest {bs : List Nat} {e : Int} (hb : ∀ x ∈ bs, x < 256) : ∀ k, ∀ x ∈ (rdK bs e k).2.1, x < 256
  | 0 => hb
  | k + 1 => numT_rest (rdK_rest hb k)
theorem rdK_len (bs : List Nat) (e : Int) : ∀ k, (rdK bs e k).2.1.length ≤ bs.length
  | 0 => Nat.le_refl _
  | k + 1 => Nat.le_trans (numT_len _ _ _) (rdK_len bs e k)
theorem rdK_good {bs : List Nat} {e : Int} (hb : ∀ x ∈ bs, x < 256) : ∀ {k}, (rdK bs e k).2.2 = 0 → e = 0 ∧ bs = encs (rdK bs e k).1 ++ (rdK bs e k).2.1
  | 0, h => ⟨h, rfl⟩
  | k + 1, h => by
    obtain ⟨h1, h2⟩ := numT_good (rdK_rest hb k) h
    obtain ⟨h3, h4⟩ := rdK_good hb h1
    refine ⟨h3, ?_⟩
    show bs = encs ((rdK bs e k).1 ++ [_]) ++ _
    rw [encs_snoc, List.append_assoc]
    conv => lhs; rw [h4, h2]
    rfl
theorem rdK_mono {bs : List Nat} {e : Int} {k : Nat} (hb : ∀ x ∈ bs, x < 256) : ∀ {d}, (rdK bs e (k + d)).2.2 = 0 → (rdK bs e k).2.2 = 0
  | 0, h => h
  | d + 1, h => rdK_mono hb (d := d) (numT_good (rdK_rest hb _) h).1
theorem rdK_read {l : List Nat} (h : ∀ n ∈ l, n ≤ maxI) : ∀ k, k ≤ l.length → rdK (encs l) 0 k = (l.take k, encs (l.drop k), 0)
  | 0, _ => rfl
  | k + 1, hk => by
    obtain ⟨n, hn⟩ := ex_at (xs := l) (k := k) (by omega)
    have hm := h n (List.mem_of_getElem? hn)
    unfold rdK
    rw [rdK_read h k (by omega)]
    simp only
    rw [encs_drop hn, numT_read hm (by unfold maxI at hm; omega), List.take_add_one, hn]
    rfl

/-- The four numbers ahead, each with its limit. -/
def rd1 (a : Nat) (bs : List Nat) := numT bs 0 a
def rd2 (a b : Nat) (bs : List Nat) := numT (rd1 a bs).2.1 (rd1 a bs).2.2 b
def rd3 (a b c : Nat) (bs : List Nat) := numT (rd2 a b bs).2.1 (rd2 a b bs).2.2 c
def rd4 (a b c d : Nat) (bs : List Nat) := numT (rd3 a b c bs).2.1 (rd3 a b c bs).2.2 d
/-- The reply that is read, with k numbers. -/
def readR (a b c d : Nat) (bs : List Nat) (k : Nat) : Rep :=
  ⟨(rd1 a bs).1, (rd2 a b bs).1 == 1, (rd3 a b c bs).1, (rdK (rd4 a b c d bs).2.1 (rd4 a b c d bs).2.2 k).1.map fun n : Nat => (n : Int)⟩

theorem endI_zero {bs : List Nat} {e : Int} (h : endI bs e = 0) : e = 0 ∧ bs = [] := by
  unfold endI at h
  split at h
  · cases h
  · rename_i h0
    subst h
    refine ⟨rfl, ?_⟩
    cases bs with
    | nil => rfl
    | cons x r => exact absurd ⟨rfl, by simp⟩ h0
theorem map_toNat (l : List Nat) : (l.map fun n : Nat => (n : Int)).map Int.toNat = l := by
  rw [List.map_map]
  conv => rhs; rw [← List.map_id l]
  apply List.map_congr_left
  intro x _
  simp
theorem map_back {l : List Int} (h : ∀ n ∈ l, 0 ≤ n) : (l.map Int.toNat).map (fun n : Nat => (n : Int)) = l := by
  rw [List.map_map]
  conv => rhs; rw [← List.map_id l]
  apply List.map_congr_left
  intro x hx
  have := h x hx
  simp
  omega

/-- What is read well to the end has these bytes. -/
theorem readR_good {a c d : Nat} {bs : List Nat} (hb : ∀ x ∈ bs, x < 256) {k : Nat} (hk : k = (rd4 a 1 c d bs).1)
    (h : endI (rdK (rd4 a 1 c d bs).2.1 (rd4 a 1 c d bs).2.2 k).2.1 (rdK (rd4 a 1 c d bs).2.1 (rd4 a 1 c d bs).2.2 k).2.2 = 0) : encR (readR a 1 c d bs k) = bs := by
  obtain ⟨h0, hr⟩ := endI_zero h
  have b1 : ∀ x ∈ (rd1 a bs).2.1, x < 256 := numT_rest hb
  have b2 : ∀ x ∈ (rd2 a 1 bs).2.1, x < 256 := numT_rest b1
  have b3 : ∀ x ∈ (rd3 a 1 c bs).2.1, x < 256 := numT_rest b2
  have b4 : ∀ x ∈ (rd4 a 1 c d bs).2.1, x < 256 := numT_rest b3
  obtain ⟨z4, e5⟩ := rdK_good b4 h0
  rw [hr, List.append_nil] at e5
  obtain ⟨z3, e4⟩ := numT_good b3 z4
  obtain ⟨z2, e3⟩ := numT_good b2 z3
  obtain ⟨z1, e2⟩ := numT_good b1 z2
  obtain ⟨_, e1⟩ := numT_good hb z1
  have hp : pN ((rd2 a 1 bs).1 == 1) = (rd2 a 1 bs).1 := by
    have h1 : (rd2 a 1 bs).1 ≤ 1 := numT_le _ _ _
    unfold pN
    split
    · rename_i h; have h' : (rd2 a 1 bs).1 = 1 := by simpa using h
      exact h'.symm
    · rename_i h
      have : (rd2 a 1 bs).1 ≠ 1 := by simpa using h
      omega
  have hlen : (readR a 1 c d bs k).ns.length = (rd4 a 1 c d bs).1 := by
    unfold readR
    rw [List.length_map, rdK_length, hk]
  have hn : numsR (readR a 1 c d bs k) = (rd1 a bs).1 :: (rd2 a 1 bs).1 :: (rd3 a 1 c bs).1 :: (rd4 a 1 c d bs).1 :: (rdK (rd4 a 1 c d bs).2.1 (rd4 a 1 c d bs).2.2 k).1 := by
    unfold numsR
    rw [hlen]
    show (Int.toNat ((rd1 a bs).1 : Int)) :: pN ((rd2 a 1 bs).1 == 1) :: (Int.toNat ((rd3 a 1 c bs).1 : Int)) :: _ :: _ = _
    rw [hp, Int.toNat_natCast, Int.toNat_natCast]
    unfold readR
    simp only
    rw [map_toNat]
  unfold encR
  rw [hn, encs_cons, encs_cons, encs_cons, encs_cons, ← e5]
  show enc (rd1 a bs).1 ++ (enc (rd2 a 1 bs).1 ++ (enc (rd3 a 1 c bs).1 ++ (enc (rd4 a 1 c d bs).1 ++ (rd4 a 1 c d bs).2.1))) = bs
  conv at e4 => rhs; rw [show numT (rd3 a 1 c bs).2.1 (rd3 a 1 c bs).2.2 d = rd4 a 1 c d bs from rfl]
  conv at e3 => rhs; rw [show numT (rd2 a 1 bs).2.1 (rd2 a 1 bs).2.2 c = rd3 a 1 c bs from rfl]
  conv at e2 => rhs; rw [show numT (rd1 a bs).2.1 (rd1 a bs).2.2 1 = rd2 a 1 bs from rfl]
  conv at e1 => rhs; rw [show numT bs 0 a = rd1 a bs from rfl]
  rw [← e4, ← e3, ← e2, ← e1]

/-- A right reply's bytes are read well: the four numbers ahead and what is left. -/
theorem rd_enc {r : Rep} (h : FitR r) {a b c d : Nat} (ha : 30 ≤ a) (hb : 1 ≤ b) (hc : 255 ≤ c) (hd : 20 ≤ d) :
    rd1 a (encR r) = (r.e.toNat, encs (pN r.p :: r.m.toNat :: r.ns.length :: r.ns.map Int.toNat), 0) ∧
    rd2 a b (encR r) = (pN r.p, encs (r.m.toNat :: r.ns.length :: r.ns.map Int.toNat), 0) ∧
    rd3 a b c (encR r) = (r.m.toNat, encs (r.ns.length :: r.ns.map Int.toNat), 0) ∧
    rd4 a b c d (encR r) = (r.ns.length, encs (r.ns.map Int.toNat), 0) := by
  have hr := rightB_iff.1 h.right
  have hl := hr.short
  have hp := pN_le r.p
  obtain ⟨h1, h2, h3, h4, _⟩ := hr
  have s1 : rd1 a (encR r) = (r.e.toNat, encs (pN r.p :: r.m.toNat :: r.ns.length :: r.ns.map Int.toNat), 0) := by
    unfold rd1 encR numsR
    rw [encs_cons]
    exact numT_read (by omega) (by omega) _
  have s2 : rd2 a b (encR r) = (pN r.p, encs (r.m.toNat :: r.ns.length :: r.ns.map Int.toNat), 0) := by
    unfold rd2
    rw [s1]
    simp only
    rw [encs_cons]
    exact numT_read (by omega) (by omega) _
  have s3 : rd3 a b c (encR r) = (r.m.toNat, encs (r.ns.length :: r.ns.map Int.toNat), 0) := by
    unfold rd3
    rw [s2]
    simp only
    rw [encs_cons]
    exact numT_read (by omega) (by omega) _
  refine ⟨s1, s2, s3, ?_⟩
  unfold rd4
  rw [s3]
  simp only
  rw [encs_cons]
  exact numT_read (by omega) (by omega) _
theorem toNat_le {r : Rep} (h : FitR r) : ∀ n ∈ r.ns.map Int.toNat, n ≤ maxI := by
  intro n hn
  obtain ⟨x, hx, rfl⟩ := List.mem_map.1 hn
  have := h.small x hx
  unfold maxI
  omega
/-- And the numbers behind them. -/
theorem rdK_enc {r : Rep} (h : FitR r) {a b c d : Nat} (ha : 30 ≤ a) (hb : 1 ≤ b) (hc : 255 ≤ c) (hd : 20 ≤ d) :
    rdK (rd4 a b c d (encR r)).2.1 (rd4 a b c d (encR r)).2.2 r.ns.length = (r.ns.map Int.toNat, [], 0) := by
  rw [(rd_enc h ha hb hc hd).2.2.2]
  simp only
  have := rdK_read (toNat_le h) r.ns.length (by simp)
  rw [this]
  refine Prod.ext ?_ (Prod.ext ?_ rfl)
  · exact List.take_of_length_le (by simp)
  · show encs (List.drop _ _) = []
    rw [List.drop_of_length_le (by simp)]
    rfl
theorem readR_enc {r : Rep} (h : FitR r) {a b c d : Nat} (ha : 30 ≤ a) (hb : 1 ≤ b) (hc : 255 ≤ c) (hd : 20 ≤ d) : readR a b c d (encR r) r.ns.length = r := by
  have hr := rightB_iff.1 h.right
  obtain ⟨s1, s2, s3, s4⟩ := rd_enc h ha hb hc hd
  have s5 := rdK_enc h ha hb hc hd
  unfold readR
  rw [s5, s1, s2, s3]
  refine Rep.same ?_ ?_ ?_ ?_
  · show ((r.e.toNat : Nat) : Int) = r.e
    have := hr.e0
    omega
  · show (pN r.p == 1) = r.p
    cases r.p <;> rfl
  · show ((r.m.toNat : Nat) : Int) = r.m
    have := hr.m0
    omega
  · exact map_back hr.pos

/-- What bytes are: a right reply that has them, or none has. -/
def IsDec (bs : List Nat) (x : Rep) (ok : Bool) : Prop := (ok = true ∧ FitR x ∧ encR x = bs) ∨ (ok = false ∧ x = zeroR ∧ ∀ r, FitR r → encR r ≠ bs)
theorem encR_inj {r s : Rep} (hr : FitR r) (hs : FitR s) (h : encR r = encR s) : r = s := by
  have h1 := readR_enc hr (a := 30) (b := 1) (c := 255) (d := 20) (by decide) (by decide) (by decide) (by decide)
  have h2 := readR_enc hs (a := 30) (b := 1) (c := 255) (d := 20) (by decide) (by decide) (by decide) (by decide)
  have l1 := (rd_enc hr (a := 30) (b := 1) (c := 255) (d := 20) (by decide) (by decide) (by decide) (by decide)).2.2.2
  have l2 := (rd_enc hs (a := 30) (b := 1) (c := 255) (d := 20) (by decide) (by decide) (by decide) (by decide)).2.2.2
  have hl : r.ns.length = s.ns.length := by
    rw [h] at l1
    rw [l1] at l2
    exact (Prod.mk.inj l2).1
  rw [← h1, h, hl, h2]
theorem IsDec.unique {bs : List Nat} {x y : Rep} {p q : Bool} (h : IsDec bs x p) (k : IsDec bs y q) : x = y ∧ p = q := by
  rcases h with ⟨rfl, h1, h2⟩ | ⟨rfl, rfl, h1⟩
  · rcases k with ⟨rfl, k1, k2⟩ | ⟨rfl, rfl, k1⟩
    · exact ⟨encR_inj h1 k1 (h2.trans k2.symm), rfl⟩
    · exact absurd h2 (k1 x h1)
  · rcases k with ⟨rfl, k1, k2⟩ | ⟨rfl, rfl, k1⟩
    · exact absurd k2 (h1 y k1)
    · exact ⟨rfl, rfl⟩

theorem readR_small (a b c d : Nat) (bs : List Nat) (k : Nat) : ∀ n ∈ (readR a b c d bs k).ns, n ≤ 9223372036854775807 := by
  intro n hn
  obtain ⟨x, hx, rfl⟩ := List.mem_map.1 hn
  have := rdK_le _ _ _ x hx
  unfold maxI at this
  omega
theorem readR_fit {a b c d : Nat} {bs : List Nat} {k : Nat} (h : rightB (readR a b c d bs k) = true) : FitR (readR a b c d bs k) := ⟨h, readR_small _ _ _ _ _ _⟩
/-- The program's answer: what is read well to the end and right. -/
theorem dec_yes {bs : List Nat} (hb : ∀ x ∈ bs, x < 256) {k : Nat} (hk : k = (rd4 30 1 255 20 bs).1)
    (h : endI (rdK (rd4 30 1 255 20 bs).2.1 (rd4 30 1 255 20 bs).2.2 k).2.1 (rdK (rd4 30 1 255 20 bs).2.1 (rd4 30 1 255 20 bs).2.2 k).2.2 = 0) (hr : rightB (readR 30 1 255 20 bs k) = true) : IsDec bs (readR 30 1 255 20 bs k) true :=
  .inl ⟨rfl, readR_fit hr, readR_good hb hk h⟩
theorem dec_no {bs : List Nat} {k : Nat} (hk : k = (rd4 30 1 255 20 bs).1)
    (h : endI (rdK (rd4 30 1 255 20 bs).2.1 (rd4 30 1 255 20 bs).2.2 k).2.1 (rdK (rd4 30 1 255 20 bs).2.1 (rd4 30 1 255 20 bs).2.2 k).2.2 ≠ 0 ∨ rightB (readR 30 1 255 20 bs k) = false) : IsDec bs zeroR false := by
  refine .inr ⟨rfl, rfl, fun r hr e => ?_⟩
  subst e
  have s4 := (rd_enc hr (a := 30) (b := 1) (c := 255) (d := 20) (by decide) (by decide) (by decide) (by decide)).2.2.2
  have hkl : k = r.ns.length := by rw [hk, s4]
  subst hkl
  rw [rdK_enc hr (by decide) (by decide) (by decide) (by decide), readR_enc hr (by decide) (by decide) (by decide) (by decide)] at h
  rcases h with h | h
  · exact h rfl
  · rw [hr.right] at h; cases h
/-- The document's answer: it stops at the first error. -/
theorem ref_yes {bs : List Nat} {k : Nat} (hr : rightB (readR 255 255 255 255 bs k) = true) (he : encR (readR 255 255 255 255 bs k) = bs) : IsDec bs (readR 255 255 255 255 bs k) true :=
  .inl ⟨rfl, readR_fit hr, he⟩
theorem ref_no {bs : List Nat} {k : Nat} (hk : k ≤ (rd4 255 255 255 255 bs).1) (hstop : k = (rd4 255 255 255 255 bs).1 ∨ (rdK (rd4 255 255 255 255 bs).2.1 (rd4 255 255 255 255 bs).2.2 k).2.2 ≠ 0)
    (h : endI (rdK (rd4 255 255 255 255 bs).2.1 (rd4 255 255 255 255 bs).2.2 k).2.1 (rdK (rd4 255 255 255 255 bs).2.1 (rd4 255 255 255 255 bs).2.2 k).2.2 ≠ 0 ∨ rightB (readR 255 255 255 255 bs k) = false ∨ encR (readR 255 255 255 255 bs k) ≠ bs) : IsDec bs zeroR false := by
  refine .inr ⟨rfl, rfl, fun r hr e => ?_⟩
  subst e
  have s4 := (rd_enc hr (a := 255) (b := 255) (c := 255) (d := 255) (by decide) (by decide) (by decide) (by decide)).2.2.2
  have s5 := rdK_enc hr (a := 255) (b := 255) (c := 255) (d := 255) (by decide) (by decide) (by decide) (by decide)
  have hl : (rd4 255 255 255 255 (encR r)).1 = r.ns.length := by rw [s4]
  have hkl : k = r.ns.length := by
    rcases hstop with h1 | h1
    · rw [h1, hl]
    · exfalso
      apply h1
      have hb : ∀ x ∈ (rd4 255 255 255 255 (encR r)).2.1, x < 256 := by
        rw [s4]
        intro x hx
        obtain ⟨n, _, hn⟩ := List.mem_flatMap.1 hx
        exact enc_bytes n x hn
      refine rdK_mono hb (d := r.ns.length - k) ?_
      rw [show k + (r.ns.length - k) = r.ns.length by omega, s5]
  subst hkl
  rw [s5, readR_enc hr (by decide) (by decide) (by decide) (by decide)] at h
  rcases h with h | h | h
  · exact h rfl
  · rw [hr.right] at h; cases h
  · exact h rfl
end Go.Proofs.Ytkkaekcjinopkaa
