/-
  Plans as lists: places, pieces, which plan is right, what a core has; counted twice.
  Conditions: none.
-/
import Derived.Test.YtpjmdnhoiobedaaSetMath
import Derived.Test.YtpjmdnhoiobedaaOrderMath
set_option linter.unusedVariables false
namespace Go.Proofs.Ytpjmdnhoiobedaa

/-- A piece: its core, its ticks. -/
structure Pc where
  c : Int
  t : Nat
/-- A place: its unit, its share, its core, its pieces. -/
structure Pl where
  u : Int
  s : Int
  c : Int
  ps : List Pc
theorem Pc.ext' {a b : Pc} (h1 : a.c = b.c) (h2 : a.t = b.t) : a = b := by cases a; cases b; simp_all
theorem Pl.ext' {a b : Pl} (h1 : a.u = b.u) (h2 : a.s = b.s) (h3 : a.c = b.c) (h4 : a.ps = b.ps) : a = b := by cases a; cases b; simp_all
instance : DecidableEq Pc := fun a b => decidable_of_iff (a.c = b.c ∧ a.t = b.t) ⟨fun h => Pc.ext' h.1 h.2, fun h => by rw [h]; exact ⟨rfl, rfl⟩⟩
instance : DecidableEq Pl := fun a b => decidable_of_iff (a.u = b.u ∧ a.s = b.s ∧ a.c = b.c ∧ a.ps = b.ps) ⟨fun h => Pl.ext' h.1 h.2.1 h.2.2.1 h.2.2.2, fun h => by rw [h]; exact ⟨rfl, rfl, rfl, rfl⟩⟩
instance : Inhabited Pc := ⟨⟨0, 0⟩⟩
instance : Inhabited Pl := ⟨⟨0, 0, 0, []⟩⟩

def Int64 (n : Int) : Prop := -9223372036854775808 ≤ n ∧ n ≤ 9223372036854775807
def PcOk (y : Pc) : Prop := Int64 y.c ∧ y.t < 18446744073709551616
def PlOk (x : Pl) : Prop := Int64 x.u ∧ Int64 x.s ∧ Int64 x.c ∧ ∀ y ∈ x.ps, PcOk y

/-- Has a plan a core? -/
def hasC (m : Nat) (c : Int) : Bool := decide (0 ≤ c ∧ c < 16) && m.testBit c.toNat
theorem hasC_range {m : Nat} {c : Int} (h : hasC m c = true) : 0 ≤ c ∧ c < 16 := by
  unfold hasC at h
  rw [Bool.and_eq_true] at h
  exact of_decide_eq_true h.1
theorem hasC_nat {m c : Nat} (h : c < 16) : hasC m (c : Int) = m.testBit c := by
  unfold hasC
  rw [decide_eq_true (by omega : (0 : Int) ≤ (c : Int) ∧ (c : Int) < 16), Int.toNat_natCast, Bool.true_and]
theorem hasC_out {m : Nat} {c : Int} (h : ¬ (0 ≤ c ∧ c < 16)) : hasC m c = false := by
  unfold hasC
  rw [decide_eq_false h]
  rfl

/-- How many pieces run at a tick, on a core, or on any. -/
def onB (c : Int) (t : Nat) (y : Pc) : Bool := decide (y.c = c) && y.t.testBit t
def nOn (q : List Pc) (c : Int) (t : Nat) : Nat := q.countP (onB c t)
def nAny (q : List Pc) (t : Nat) : Nat := q.countP fun y => y.t.testBit t
theorem nOn_nil (c : Int) (t : Nat) : nOn [] c t = 0 := rfl
theorem nOn_snoc (q : List Pc) (y : Pc) (c : Int) (t : Nat) : nOn (q ++ [y]) c t = nOn q c t + (onB c t y).toNat := by
  unfold nOn
  rw [List.countP_append, List.countP_singleton]
  cases onB c t y <;> rfl
theorem nAny_snoc (q : List Pc) (y : Pc) (t : Nat) : nAny (q ++ [y]) t = nAny q t + (y.t.testBit t).toNat := by
  unfold nAny
  rw [List.countP_append, List.countP_singleton]
  cases y.t.testBit t <;> rfl
theorem nOn_append (q r : List Pc) (c : Int) (t : Nat) : nOn (q ++ r) c t = nOn q c t + nOn r c t := List.countP_append
theorem nAny_append (q r : List Pc) (t : Nat) : nAny (q ++ r) t = nAny q t + nAny r t := List.countP_append
theorem nAny_pos {q : List Pc} {t : Nat} : 0 < nAny q t ↔ ∃ y ∈ q, y.t.testBit t = true := List.countP_pos_iff
theorem nOn_pos {q : List Pc} {c : Int} {t : Nat} : 0 < nOn q c t ↔ ∃ y ∈ q, y.c = c ∧ y.t.testBit t = true := by
  unfold nOn onB
  rw [List.countP_pos_iff]
  simp
theorem nOn_le_any (q : List Pc) (c : Int) (t : Nat) : nOn q c t ≤ nAny q t := by
  refine List.countP_mono_left fun y _ h => ?_
  unfold onB at h
  rw [Bool.and_eq_true] at h
  exact h.2

/-- All pieces of a plan. -/
def pcsOf (l : List Pl) : List Pc := l.flatMap Pl.ps
theorem pcsOf_snoc (l : List Pl) (x : Pl) : pcsOf (l ++ [x]) = pcsOf l ++ x.ps := by simp [pcsOf]
theorem pcsOf_cons (l : List Pl) (x : Pl) : pcsOf (x :: l) = x.ps ++ pcsOf l := by simp [pcsOf]
theorem mem_pcsOf {l : List Pl} {y : Pc} : y ∈ pcsOf l ↔ ∃ x ∈ l, y ∈ x.ps := List.mem_flatMap

/-- A sum of the first k. -/
def sumTo (f : Nat → Nat) : Nat → Nat
  | 0 => 0
  | k + 1 => sumTo f k + f k
theorem sumTo_congr {f g : Nat → Nat} : ∀ {k : Nat}, (∀ i, i < k → f i = g i) → sumTo f k = sumTo g k
  | 0, _ => rfl
  | k + 1, h => by rw [sumTo, sumTo, sumTo_congr fun i hi => h i (by omega), h k (by omega)]
theorem sumTo_add (f g : Nat → Nat) : ∀ k : Nat, sumTo (fun i => f i + g i) k = sumTo f k + sumTo g k
  | 0 => rfl
  | k + 1 => by rw [sumTo, sumTo, sumTo, sumTo_add f g k]; omega
theorem sumTo_zero {f : Nat → Nat} : ∀ {k : Nat}, (∀ i, i < k → f i = 0) → sumTo f k = 0
  | 0, _ => rfl
  | k + 1, h => by rw [sumTo, sumTo_zero fun i hi => h i (by omega), h k (by omega)]
theorem sumTo_swap (f : Nat → Nat → Nat) (n : Nat) : ∀ k : Nat, sumTo (fun i => sumTo (fun j => f i j) n) k = sumTo (fun j => sumTo (fun i => f i j) k) n
  | 0 => (sumTo_zero fun _ _ => rfl).symm
  | k + 1 => by
    rw [sumTo, sumTo_swap f n k, ← sumTo_add]
    exact sumTo_congr fun i _ => rfl
theorem sumTo_le {f g : Nat → Nat} : ∀ {k : Nat}, (∀ i, i < k → f i ≤ g i) → sumTo f k ≤ sumTo g k
  | 0, _ => Nat.le_refl _
  | k + 1, h => by
    rw [sumTo, sumTo]
    have h1 := sumTo_le (k := k) fun i hi => h i (by omega)
    have h2 := h k (by omega)
    omega
theorem sumTo_const (c : Nat) : ∀ k : Nat, sumTo (fun _ => c) k = k * c
  | 0 => by simp [sumTo]
  | k + 1 => by rw [sumTo, sumTo_const c k, Nat.succ_mul]
/-- One of them alone. -/
theorem sumTo_one {c0 v : Nat} : ∀ {k : Nat}, c0 < k → sumTo (fun i => if i = c0 then v else 0) k = v
  | 0, h => absurd h (Nat.not_lt_zero _)
  | k + 1, h => by
    rw [sumTo]
    by_cases e : k = c0
    · subst e
      rw [if_pos rfl, sumTo_zero fun i hi => if_neg (by omega)]
      omega
    · rw [if_neg e, sumTo_one (by omega)]
      omega

/-- Sets as counts. -/
theorem cntT_sum (m : Nat) : ∀ k : Nat, cntT m k = sumTo (fun t => (m.testBit t).toNat) k
  | 0 => rfl
  | k + 1 => by rw [cntT_succ, cntT_sum m k, sumTo]
theorem cnt_sum (m : Nat) : cnt m = sumTo (fun t => (m.testBit t).toNat) 64 := cntT_sum m 64
/-- The ticks at which some of the pieces run on a core. -/
def winN (q : List Pc) (c : Int) : Nat := setP fun t => decide (0 < nOn q c t)
theorem winN_lt (q : List Pc) (c : Int) : winN q c < 18446744073709551616 := setP_lt _
theorem winN_bit {q : List Pc} {c : Int} {t : Nat} (h : t < 64) : (winN q c).testBit t = decide (0 < nOn q c t) := by
  unfold winN
  rw [setP_bit, decide_eq_true h, Bool.true_and]
theorem winN_nil (c : Int) : winN [] c = 0 := setP_zero fun j _ => by rw [nOn_nil]; rfl
theorem cnt_win {q : List Pc} {c : Int} (h : ∀ t, t < 64 → nOn q c t ≤ 1) : cnt (winN q c) = sumTo (nOn q c) 64 := by
  rw [cnt_sum]
  refine sumTo_congr fun t ht => ?_
  rw [winN_bit ht]
  have := h t ht
  by_cases h0 : 0 < nOn q c t
  · rw [decide_eq_true h0]
    show 1 = _
    omega
  · rw [decide_eq_false h0]
    show 0 = _
    omega

/-! ### What a place may be -/
def Rise (m : Nat) : Int → List Pc → Prop
  | _, [] => True
  | last, y :: ys => hasC m y.c = true ∧ last < y.c ∧ y.t ≠ 0 ∧ Rise m y.c ys
/-- The pieces so far are right. -/
def Kept (f : Int) (q : List Pc) : Prop := ∀ t, t < 64 → nAny q t ≤ 1 ∧ (0 < nAny q t → (t : Int) < f)
structure SplitOk (f : Int) (m : Nat) (x : Pl) : Prop where
  core : x.c = 0
  two : 2 ≤ x.ps.length
  rise : Rise m (-1) x.ps
  kept : Kept f x.ps
  all : (sumTo (nAny x.ps) 64 : Int) = x.s
/-- A place by itself. -/
structure PlaceOk (f : Int) (m : Nat) (x : Pl) : Prop where
  unit : isU x.u = true
  s1 : 1 ≤ x.s
  s2 : x.s ≤ f
  whole : x.ps = [] → hasC m x.c = true
  split : x.ps ≠ [] → SplitOk f m x

def splitsN (l : List Pl) : Nat := l.countP fun x => !decide (x.ps.length = 0)
def wholeB (c : Int) (x : Pl) : Bool := decide (x.ps.length = 0) && decide (x.c = c)
def wholesT (l : List Pl) (c : Int) : List Sp := (l.filter (wholeB c)).map fun x => (x.u, x.s)
def wantsT (l : List Pl) : List Sp := l.map fun x => (x.u, x.s)
def sumS : List Sp → Int
  | [] => 0
  | p :: r => p.2 + sumS r
theorem sumS_append : ∀ (a b : List Sp), sumS (a ++ b) = sumS a + sumS b
  | [], b => by simp [sumS]
  | p :: a, b => by rw [List.cons_append, sumS, sumS, sumS_append a b]; omega
def loadN (l : List Pl) (c : Int) : Int := (cnt (winN (pcsOf l) c) : Int) + sumS (wholesT l c)
/-- How many cores. -/
def coresN (m : Nat) : Nat := cntT m 16
structure Right (f : Int) (m : Nat) (l : List Pl) : Prop where
  f2 : 2 ≤ f
  f64 : f ≤ 64
  m0 : m ≠ 0
  m16 : m < 65536
  place : ∀ x ∈ l, PlaceOk f m x
  asc : ∀ (i : Nat) (x y : Pl), l[i]? = some x → l[i + 1]? = some y → x.u < y.u
  apart : ∀ c : Nat, c < 16 → ∀ t, t < 64 → nOn (pcsOf l) (c : Int) t ≤ 1
  few : splitsN l < coresN m
  load : ∀ c : Nat, c < 16 → m.testBit c = true → loadN l (c : Int) ≤ f

/-- Units rise. -/
theorem Right.rises {f : Int} {m : Nat} {l : List Pl} (h : Right f m l) : ∀ (d i : Nat) (x y : Pl), l[i]? = some x → l[i + d + 1]? = some y → x.u < y.u
  | 0, i, x, y, hx, hy => h.asc i x y hx hy
  | d + 1, i, x, y, hx, hy => by
    have hlt : i + (d + 1) + 1 < l.length := (List.getElem?_eq_some_iff.1 hy).1
    have hz : l[i + d + 1]? = some l[i + d + 1] := List.getElem?_eq_getElem (by omega)
    have h1 := h.rises d i x _ hx hz
    have h2 := h.asc (i + d + 1) _ y hz (by rw [← hy]; congr 1)
    omega
theorem Right.rise {f : Int} {m : Nat} {l : List Pl} (h : Right f m l) {i j : Nat} {x y : Pl} (hij : i < j) (hx : l[i]? = some x) (hy : l[j]? = some y) : x.u < y.u := by
  obtain ⟨d, rfl⟩ : ∃ d, j = i + d + 1 := ⟨j - i - 1, by omega⟩
  exact h.rises d i x y hx hy

/-- With 16 cores at most, all bits lie below 16. -/
theorem bit16 {m : Nat} (h : m < 65536) {c : Nat} (hc : 16 ≤ c) : m.testBit c = false :=
  Nat.testBit_lt_two_pow (Nat.lt_of_lt_of_le (show m < 2 ^ 16 from h) (Nat.pow_le_pow_right (by decide) hc))
theorem cntT_top {m : Nat} (h : m < 65536) : ∀ d : Nat, cntT m (16 + d) = cntT m 16
  | 0 => rfl
  | d + 1 => by rw [show 16 + (d + 1) = (16 + d) + 1 by omega, cntT_succ, cntT_top h d, bit16 h (by omega)]; rfl
theorem cores_cnt {m : Nat} (h : m < 65536) : cnt m = coresN m := cntT_top h 48

/-! ### A split place, by what is free -/
/-- What is free behind some pieces. -/
def freeN (f : Int) (q : List Pc) : Nat := setP fun t => decide ((t : Int) < f) && decide (nAny q t = 0)
theorem freeN_lt (f : Int) (q : List Pc) : freeN f q < 18446744073709551616 := setP_lt _
theorem freeN_bit {f : Int} {q : List Pc} {t : Nat} (h : t < 64) : (freeN f q).testBit t = (decide ((t : Int) < f) && decide (nAny q t = 0)) := by
  unfold freeN
  rw [setP_bit, decide_eq_true h, Bool.true_and]
/-- A piece fits into what is free. -/
theorem fits_iff {f : Int} {q : List Pc} {y : Pc} (hy : y.t < 18446744073709551616) (hk : Kept f q) : lessN y.t (freeN f q) = 0 ↔ Kept f (q ++ [y]) := by
  constructor
  · intro h t ht
    rw [nAny_snoc]
    obtain ⟨h1, h2⟩ := hk t ht
    have hb : (lessN y.t (freeN f q)).testBit t = false := by rw [h]; exact Nat.zero_testBit t
    unfold lessN at hb
    rw [setP_bit, decide_eq_true ht, Bool.true_and, freeN_bit ht] at hb
    cases hyt : y.t.testBit t with
    | false => simpa using ⟨h1, h2⟩
    | true =>
      rw [hyt] at hb
      have hb' : decide ((t : Int) < f) = true ∧ decide (nAny q t = 0) = true := by
        cases e1 : decide ((t : Int) < f) <;> cases e2 : decide (nAny q t = 0) <;> simp [e1, e2] at hb ⊢
      have e1 := of_decide_eq_true hb'.1
      have e2 := of_decide_eq_true hb'.2
      rw [e2]
      exact ⟨by simp, fun _ => e1⟩
  · intro h
    refine setP_zero fun t ht => ?_
    rw [freeN_bit ht]
    cases hyt : y.t.testBit t with
    | false => rfl
    | true =>
      obtain ⟨h1, h2⟩ := h t ht
      rw [nAny_snoc, hyt] at h1 h2
      simp only [Bool.toNat_true] at h1 h2
      have e1 : nAny q t = 0 := by omega
      have e2 := h2 (by omega)
      rw [decide_eq_true e2, decide_eq_true e1]
      rfl
theorem free_next {f : Int} {q : List Pc} {y : Pc} : lessN (freeN f q) y.t = freeN f (q ++ [y]) := by
  refine setP_congr fun t ht => ?_
  rw [freeN_bit ht, nAny_snoc]
  cases hyt : y.t.testBit t with
  | false => simp
  | true => simp
theorem free_cnt {f : Int} {q : List Pc} (hk : Kept f q) (hf : 0 ≤ f) (hf2 : f ≤ 64) : (cnt (freeN f q) : Int) + (sumTo (nAny q) 64 : Int) = f := by
  have key : ∀ k : Nat, k ≤ 64 → (cntT (freeN f q) k : Int) + (sumTo (nAny q) k : Int) = if (k : Int) ≤ f then (k : Int) else f := by
    intro k
    induction k with
    | zero => intro _; rw [cntT_zero, sumTo, if_pos (by simpa using hf)]; rfl
    | succ k ih =>
      intro hk1
      have ih := ih (by omega)
      obtain ⟨h1, h2⟩ := hk k (by omega)
      rw [cntT_succ, sumTo, freeN_bit (by omega)]
      by_cases hkf : (k : Int) < f
      · rw [decide_eq_true hkf, Bool.true_and]
        rw [if_pos (by omega)] at ih
        rw [if_pos (by omega)]
        by_cases h0 : nAny q k = 0
        · rw [decide_eq_true h0, h0]
          simp only [Bool.toNat_true]
          omega
        · rw [decide_eq_false h0]
          simp only [Bool.toNat_false]
          omega
      · rw [decide_eq_false hkf, Bool.false_and]
        have h0 : nAny q k = 0 := by
          rcases Nat.eq_zero_or_pos (nAny q k) with h | h
          · exact h
          · exact absurd (h2 h) hkf
        rw [h0, if_neg (by omega)]
        simp only [Bool.toNat_false]
        by_cases e : (k : Int) = f
        · rw [if_pos (by omega)] at ih; omega
        · rw [if_neg (by omega)] at ih; omega
  have := key 64 (Nat.le_refl _)
  rw [show cnt (freeN f q) = cntT (freeN f q) 64 from rfl]
  by_cases e : ((64 : Nat) : Int) ≤ f
  · rw [if_pos e] at this; omega
  · rw [if_neg e] at this; exact this

/-- Rise, walked from the left. -/
theorem rise_snoc {m : Nat} {y : Pc} : ∀ (q : List Pc) (last : Int), Rise m last (q ++ [y]) ↔ Rise m last q ∧ hasC m y.c = true ∧ (q.getLast?.map Pc.c).getD last < y.c ∧ y.t ≠ 0
  | [], last => by simp [Rise]
  | z :: q, last => by
    rw [List.cons_append, Rise, rise_snoc q z.c, Rise]
    have e : ((z :: q).getLast?.map Pc.c).getD last = (q.getLast?.map Pc.c).getD z.c := by
      cases q with
      | nil => rfl
      | cons a q => rw [List.getLast?_cons_cons]; cases h : (a :: q).getLast? with
        | none => simp at h
        | some b => rfl
    rw [e]
    constructor
    · rintro ⟨h1, h2, h3, h4, h5, h6, h7⟩; exact ⟨⟨h1, h2, h3, h4⟩, h5, h6, h7⟩
    · rintro ⟨⟨h1, h2, h3, h4⟩, h5, h6, h7⟩; exact ⟨h1, h2, h3, h4, h5, h6, h7⟩
theorem rise_prefix {m : Nat} : ∀ (q r : List Pc) (last : Int), Rise m last (q ++ r) → Rise m last q
  | [], r, last, _ => trivial
  | z :: q, r, last, h => by
    rw [List.cons_append, Rise] at h
    exact ⟨h.1, h.2.1, h.2.2.1, rise_prefix q r _ h.2.2.2⟩
theorem kept_prefix {f : Int} {q r : List Pc} (h : Kept f (q ++ r)) : Kept f q := fun t ht => by
  obtain ⟨h1, h2⟩ := h t ht
  rw [nAny_append] at h1 h2
  exact ⟨by omega, fun h0 => h2 (by omega)⟩
theorem kept_nil (f : Int) : Kept f [] := fun t _ => ⟨Nat.zero_le _, fun h => absurd h (Nat.lt_irrefl 0)⟩
/-- Each piece of a right row lies on a core of the plan. -/
theorem rise_has {m : Nat} : ∀ {q : List Pc} {last : Int}, Rise m last q → ∀ y ∈ q, hasC m y.c = true
  | [], _, _, y, hy => by cases hy
  | z :: q, last, h, y, hy => by
    rcases List.mem_cons.1 hy with rfl | hy
    · exact h.1
    · exact rise_has h.2.2.2 y hy
theorem PlaceOk.has {f : Int} {m : Nat} {x : Pl} (h : PlaceOk f m x) : ∀ y ∈ x.ps, hasC m y.c = true := fun y hy => by
  have hne : x.ps ≠ [] := by intro e; rw [e] at hy; cases hy
  exact rise_has (h.split hne).rise y hy
end Go.Proofs.Ytpjmdnhoiobedaa
