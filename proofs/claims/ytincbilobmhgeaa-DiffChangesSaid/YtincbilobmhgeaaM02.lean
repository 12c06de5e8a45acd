/-
  Pieces and places held against each other.
  Conditions: the slices read as pieces.
-/
import Derived.Test.YtincbilobmhgeaaM01
import Derived.Maps.AppendAt
import Derived.WalkSpells
import Derived.Lib.SliceRun
import Derived.BigRegion
import Derived.Deep.Cut
import Derived.Deep.CutRange
import Derived.Deep.CutBlock

/-
  Plans as lists: places, pieces, which plan is right, what a core has; counted twice.
  Conditions: none.
-/
set_option linter.unusedVariables false
namespace Go.Proofs.Ytincbilobmhgeaa

/-- A piece: its core, its ticks. -/
structure Pc where
  c : Int
  t : Nat
/-- A place: its unit, its share, its core, its pieces. -/
structure Pl where
  u : Int
  s : Int
  c : Int
  ps : List Pc
theorem Pc.ext' {a b : Pc} (h1 : a.c = b.c) (h2 : a.t = b.t) : a = b := by cases a; cases b; simp_all
theorem Pl.ext' {a b : Pl} (h1 : a.u = b.u) (h2 : a.s = b.s) (h3 : a.c = b.c) (h4 : a.ps = b.ps) : a = b := by cases a; cases b; simp_all
instance : DecidableEq Pc := fun a b => decidable_of_iff (a.c = b.c ∧ a.t = b.t) ⟨fun h => Pc.ext' h.1 h.2, fun h => by rw [h]; exact ⟨rfl, rfl⟩⟩
instance : DecidableEq Pl := fun a b => decidable_of_iff (a.u = b.u ∧ a.s = b.s ∧ a.c = b.c ∧ a.ps = b.ps) ⟨fun h => Pl.ext' h.1 h.2.1 h.2.2.1 h.2.2.2, fun h => by rw [h]; exact ⟨rfl, rfl, rfl, rfl⟩⟩
instance : Inhabited Pc := ⟨⟨0, 0⟩⟩
instance : Inhabited Pl := ⟨⟨0, 0, 0, []⟩⟩

def Int64 (n : Int) : Prop := -9223372036854775808 ≤ n ∧ n ≤ 9223372036854775807
def PcOk (y : Pc) : Prop := Int64 y.c ∧ y.t < 18446744073709551616
def PlOk (x : Pl) : Prop := Int64 x.u ∧ Int64 x.s ∧ Int64 x.c ∧ ∀ y ∈ x.ps, PcOk y

/-- Has a plan a core? -/
def hasC (m : Nat) (c : Int) : Bool := decide (0 ≤ c ∧ c < 16) && m.testBit c.toNat
theorem hasC_range {m : Nat} {c : Int} (h : hasC m c = true) : 0 ≤ c ∧ c < 16 := by
  unfold hasC at h
  rw [Bool.and_eq_true] at h
  exact of_decide_eq_true h.1
theorem hasC_nat {m c : Nat} (h : c < 16) : hasC m (c : Int) = m.testBit c := by
  unfold hasC
  rw [decide_eq_true (by omega : (0 : Int) ≤ (c : Int) ∧ (c : Int) < 16), Int.toNat_natCast, Bool.true_and]
theorem hasC_out {m : Nat} {c : Int} (h : ¬ (0 ≤ c ∧ c < 16)) : hasC m c = false := by
  unfold hasC
  rw [decide_eq_false h]
  rfl

/-- How many pieces run at a tick, on a core, or on any. -/
def onB (c : Int) (t : Nat) (y : Pc) : Bool := decide (y.c = c) && y.t.testBit t
def nOn (q : List Pc) (c : Int) (t : Nat) : Nat := q.countP (onB c t)
def nAny (q : List Pc) (t : Nat) : Nat := q.countP fun y => y.t.testBit t
theorem nOn_nil (c : Int) (t : Nat) : nOn [] c t = 0 := rfl
theorem nOn_snoc (q : List Pc) (y : Pc) (c : Int) (t : Nat) : nOn (q ++ [y]) c t = nOn q c t + (onB c t y).toNat := by
  unfold nOn
  rw [List.countP_append, List.countP_singleton]
  cases onB c t y <;> rfl
theorem nAny_snoc (q : List Pc) (y : Pc) (t : Nat) : nAny (q ++ [y]) t = nAny q t + (y.t.testBit t).toNat := by
  unfold nAny
  rw [List.countP_append, List.countP_singleton]
  cases y.t.testBit t <;> rfl
theorem nOn_append (q r : List Pc) (c : Int) (t : Nat) : nOn (q ++ r) c t = nOn q c t + nOn r c t := List.countP_append
theorem nAny_append (q r : List Pc) (t : Nat) : nAny (q ++ r) t = nAny q t + nAny r t := List.countP_append
theorem nAny_pos {q : List Pc} {t : Nat} : 0 < nAny q t ↔ ∃ y ∈ q, y.t.testBit t = true := List.countP_pos_iff
theorem nOn_pos {q : List Pc} {c : Int} {t : Nat} : 0 < nOn q c t ↔ ∃ y ∈ q, y.c = c ∧ y.t.testBit t = true := by
  unfold nOn onB
  rw [List.countP_pos_iff]
  simp
theorem nOn_le_any (q : List Pc) (c : Int) (t : Nat) : nOn q c t ≤ nAny q t := by
  refine List.countP_mono_left fun y _ h => ?_
  unfold onB at h
  rw [Bool.and_eq_true] at h
  exact h.2

/-- All pieces of a plan. -/
def pcsOf (l : List Pl) : List Pc := l.flatMap Pl.ps
theorem pcsOf_snoc (l : List Pl) (x : Pl) : pcsOf (l ++ [x]) = pcsOf l ++ x.ps := by simp [pcsOf]
theorem pcsOf_cons (l : List Pl) (x : Pl) : pcsOf (x :: l) = x.ps ++ pcsOf l := by simp [pcsOf]
theorem mem_pcsOf {l : List Pl} {y : Pc} : y ∈ pcsOf l ↔ ∃ x ∈ l, y ∈ x.ps := List.mem_flatMap

/-- A sum of the first k. -/
def sumTo (f : Nat → Nat) : Nat → Nat
  | 0 => 0
  | k + 1 => sumTo f k + f k
theorem sumTo_congr {f g : Nat → Nat} : ∀ {k : Nat}, (∀ i, i < k → f i = g i) → sumTo f k = sumTo g k
  | 0, _ => rfl
  | k + 1, h => by rw [sumTo, sumTo, sumTo_congr fun i hi => h i (by omega), h k (by omega)]
theorem sumTo_add (f g : Nat → Nat) : ∀ k : Nat, sumTo (fun i => f i + g i) k = sumTo f k + sumTo g k
  | 0 => rfl
  | k + 1 => by rw [sumTo, sumTo, sumTo, sumTo_add f g k]; omega
theorem sumTo_zero {f : Nat → Nat} : ∀ {k : Nat}, (∀ i, i < k → f i = 0) → sumTo f k = 0
  | 0, _ => rfl
  | k + 1, h => by rw [sumTo, sumTo_zero fun i hi => h i (by omega), h k (by omega)]
theorem sumTo_swap (f : Nat → Nat → Nat) (n : Nat) : ∀ k : Nat, sumTo (fun i => sumTo (fun j => f i j) n) k = sumTo (fun j => sumTo (fun i => f i j) k) n
  | 0 => (sumTo_zero fun _ _ => rfl).symm
  | k + 1 => by
    rw [sumTo, sumTo_swap f n k, ← sumTo_add]
    exact sumTo_congr fun i _ => rfl
theorem sumTo_le {f g : Nat → Nat} : ∀ {k : Nat}, (∀ i, i < k → f i ≤ g i) → sumTo f k ≤ sumTo g k
  | 0, _ => Nat.le_refl _
  | k + 1, h => by
    rw [sumTo, sumTo]
    have h1 := sumTo_le (k := k) fun i hi => h i (by omega)
    have h2 := h k (by omega)
    omega
theorem sumTo_const (c : Nat) : ∀ k : Nat, sumTo (fun _ => c) k = k * c
  | 0 => by simp [sumTo]
  | k + 1 => by rw [sumTo, sumTo_const c k, Nat.succ_mul]
/-- One of them alone. -/
theorem sumTo_one {c0 v : Nat} : ∀ {k : Nat}, c0 < k → sumTo (fun i => if i = c0 then v else 0) k = v
  | 0, h => absurd h (Nat.not_lt_zero _)
  | k + 1, h => by
    rw [sumTo]
    by_cases e : k = c0
    · subst e
      rw [if_pos rfl, sumTo_zero fun i hi => if_neg (by omega)]
      omega
    · rw [if_neg e, sumTo_one (by omega)]
      omega

/-- Sets as counts. -/
theorem cntT_sum (m : Nat) : ∀ k : Nat, cntT m k = sumTo (fun t => (m.testBit t).toNat) k
  | 0 => rfl
  | k + 1 => by rw [cntT_succ, cntT_sum m k, sumTo]
theorem cnt_sum (m : Nat) : cnt m = sumTo (fun t => (m.testBit t).toNat) 64 := cntT_sum m 64
/-- The ticks at which some of the pieces run on a core. -/
def winN (q : List Pc) (c : Int) : Nat := setP fun t => decide (0 < nOn q c t)
theorem winN_lt (q : List Pc) (c : Int) : winN q c < 18446744073709551616 := setP_lt _
theorem winN_bit {q : List Pc} {c : Int} {t : Nat} (h : t < 64) : (winN q c).testBit t = decide (0 < nOn q c t) := by
  unfold winN
  rw [setP_bit, decide_eq_true h, Bool.true_and]
theorem winN_nil (c : Int) : winN [] c = 0 := setP_zero fun j _ => by rw [nOn_nil]; rfl
theorem cnt_win {q : List Pc} {c : Int} (h : ∀ t, t < 64 → nOn q c t ≤ 1) : cnt (winN q c) = sumTo (nOn q c) 64 := by
  rw [cnt_sum]
  refine sumTo_congr fun t ht => ?_
  rw [winN_bit ht]
  have := h t ht
  by_cases h0 : 0 < nOn q c t
  · rw [decide_eq_true h0]
    show 1 = _
    omega
  · rw [decide_eq_false h0]
    show 0 = _
    omega

/-! ### What a place may be -/
def Rise (m : Nat) : Int → List Pc → Prop
  | _, [] => True
  | last, y :: ys => hasC m y.c = true ∧ last < y.c ∧ y.t ≠ 0 ∧ Rise m y.c ys
/-- The pieces so far are right. -/
def Kept (f : Int) (q : List Pc) : Prop := ∀ t, t < 64 → nAny q t ≤ 1 ∧ (0 < nAny q t → (t : Int) < f)
structure SplitOk (f : Int) (m : Nat) (x : Pl) : Prop where
  core : x.c = 0
  two : 2 ≤ x.ps.length
  rise : Rise m (-1) x.ps
  kept : Kept f x.ps
  all : (sumTo (nAny x.ps) 64 : Int) = x.s
/-- A place by itself. -/
structure PlaceOk (f : Int) (m : Nat) (x : Pl) : Prop where
  unit : isU x.u = true
  s1 : 1 ≤ x.s
  s2 : x.s ≤ f
  whole : x.ps = [] → hasC m x.c = true
  split : x.ps ≠ [] → SplitOk f m x

def splitsN (l : List Pl) : Nat := l.countP fun x => !decide (x.ps.length = 0)
def wholeB (c : Int) (x : Pl) : Bool := decide (x.ps.length = 0) && decide (x.c = c)
def wholesT (l : List Pl) (c : Int) : List Sp := (l.filter (wholeB c)).map fun x => (x.u, x.s)
def wantsT (l : List Pl) : List Sp := l.map fun x => (x.u, x.s)
def sumS : List Sp → Int
  | [] => 0
  | p :: r => p.2 + sumS r
theorem sumS_append : ∀ (a b : List Sp), sumS (a ++ b) = sumS a + sumS b
  | [], b => by simp [sumS]
  | p :: a, b => by rw [List.cons_append, sumS, sumS, sumS_append a b]; omega
def loadN (l : List Pl) (c : Int) : Int := (cnt (winN (pcsOf l) c) : Int) + sumS (wholesT l c)
/-- How many cores. -/
def coresN (m : Nat) : Nat := cntT m 16
structure Right (f : Int) (m : Nat) (l : List Pl) : Prop where
  f2 : 2 ≤ f
  f64 : f ≤ 64
  m0 : m ≠ 0
  m16 : m < 65536
  place : ∀ x ∈ l, PlaceOk f m x
  asc : ∀ (i : Nat) (x y : Pl), l[i]? = some x → l[i + 1]? = some y → x.u < y.u
  apart : ∀ c : Nat, c < 16 → ∀ t, t < 64 → nOn (pcsOf l) (c : Int) t ≤ 1
  few : splitsN l < coresN m
  load : ∀ c : Nat, c < 16 → m.testBit c = true → loadN l (c : Int) ≤ f

/-- Units rise. -/
theorem Right.rises {f : Int} {m : Nat} {l : List Pl} (h : Right f m l) : ∀ (d i : Nat) (x y : Pl), l[i]? = some x → l[i + d + 1]? = some y → x.u < y.u
  | 0, i, x, y, hx, hy => h.asc i x y hx hy
  | d + 1, i, x, y, hx, hy => by
    have hlt : i + (d + 1) + 1 < l.length := (List.getElem?_eq_some_iff.1 hy).1
    have hz : l[i + d + 1]? = some l[i + d + 1] := List.getElem?_eq_getElem (by omega)
    have h1 := h.rises d i x _ hx hz
    have h2 := h.asc (i + d + 1) _ y hz (by rw [← hy]; congr 1)
    omega
theorem Right.rise {f : Int} {m : Nat} {l : List Pl} (h : Right f m l) {i j : Nat} {x y : Pl} (hij : i < j) (hx : l[i]? = some x) (hy : l[j]? = some y) : x.u < y.u := by
  obtain ⟨d, rfl⟩ : ∃ d, j = i + d + 1 := ⟨j - i - 1, by omega⟩
  exact h.rises d i x y hx hy

/-- With 16 cores at most, all bits lie below 16. -/
theorem bit16 {m : Nat} (h : m < 65536) {c : Nat} (hc : 16 ≤ c) : m.testBit c = false :=
  Nat.testBit_lt_two_pow (Nat.lt_of_lt_of_le (show m < 2 ^ 16 from h) (Nat.pow_le_pow_right (by decide) hc))
theorem cntT_top {m : Nat} (h : m < 65536) : ∀ d : Nat, cntT m (16 + d) = cntT m 16
  | 0 => rfl
  | d + 1 => by rw [show 16 + (d + 1) = (16 + d) + 1 by omega, cntT_succ, cntT_top h d, bit16 h (by omega)]; rfl
theorem cores_cnt {m : Nat} (h : m < 65536) : cnt m = coresN m := cntT_top h 48

/-! ### A split place, by what is free -/
/-- What is free behind some pieces. -/
def freeN (f : Int) (q : List Pc) : Nat := setP fun t => decide ((t : Int) < f) && decide (nAny q t = 0)
theorem freeN_lt (f : Int) (q : List Pc) : freeN f q < 18446744073709551616 := setP_lt _
theorem freeN_bit {f : Int} {q : List Pc} {t : Nat} (h : t < 64) : (freeN f q).testBit t = (decide ((t : Int) < f) && decide (nAny q t = 0)) := by
  unfold freeN
  rw [setP_bit, decide_eq_true h, Bool.true_and]
/-- A piece fits into what is free. -/
theorem fits_iff {f : Int} {q : List Pc} {y : Pc} (hy : y.t < 18446744073709551616) (hk : Kept f q) : lessN y.t (freeN f q) = 0 ↔ Kept f (q ++ [y]) := by
  constructor
  · intro h t ht
    rw [nAny_snoc]
    obtain ⟨h1, h2⟩ := hk t ht
    have hb : (lessN y.t (freeN f q)).testBit t = false := by rw [h]; exact Nat.zero_testBit t
    unfold lessN at hb
    rw [setP_bit, decide_eq_true ht, Bool.true_and, freeN_bit ht] at hb
    cases hyt : y.t.testBit t with
    | false => simpa using ⟨h1, h2⟩
    | true =>
      rw [hyt] at hb
      have hb' : decide ((t : Int) < f) = true ∧ decide (nAny q t = 0) = true := by
        cases e1 : decide ((t : Int) < f) <;> cases e2 : decide (nAny q t = 0) <;> simp [e1, e2] at hb ⊢
      have e1 := of_decide_eq_true hb'.1
      have e2 := of_decide_eq_true hb'.2
      rw [e2]
      exact ⟨by simp, fun _ => e1⟩
  · intro h
    refine setP_zero fun t ht => ?_
    rw [freeN_bit ht]
    cases hyt : y.t.testBit t with
    | false => rfl
    | true =>
      obtain ⟨h1, h2⟩ := h t ht
      rw [nAny_snoc, hyt] at h1 h2
      simp only [Bool.toNat_true] at h1 h2
      have e1 : nAny q t = 0 := by omega
      have e2 := h2 (by omega)
      rw [decide_eq_true e2, decide_eq_true e1]
      rfl
theorem free_next {f : Int} {q : List Pc} {y : Pc} : lessN (freeN f q) y.t = freeN f (q ++ [y]) := by
  refine setP_congr fun t ht => ?_
  rw [freeN_bit ht, nAny_snoc]
  cases hyt : y.t.testBit t with
  | false => simp
  | true => simp
theorem free_cnt {f : Int} {q : List Pc} (hk : Kept f q) (hf : 0 ≤ f) (hf2 : f ≤ 64) : (cnt (freeN f q) : Int) + (sumTo (nAny q) 64 : Int) = f := by
  have key : ∀ k : Nat, k ≤ 64 → (cntT (freeN f q) k : Int) + (sumTo (nAny q) k : Int) = if (k : Int) ≤ f then (k : Int) else f := by
    intro k
    induction k with
    | zero => intro _; rw [cntT_zero, sumTo, if_pos (by simpa using hf)]; rfl
    | succ k ih =>
      intro hk1
      have ih := ih (by omega)
      obtain ⟨h1, h2⟩ := hk k (by omega)
      rw [cntT_succ, sumTo, freeN_bit (by omega)]
      by_cases hkf : (k : Int) < f
      · rw [decide_eq_true hkf, Bool.true_and]
        rw [if_pos (by omega)] at ih
        rw [if_pos (by omega)]
        by_cases h0 : nAny q k = 0
        · rw [decide_eq_true h0, h0]
          simp only [Bool.toNat_true]
          omega
        · rw [decide_eq_false h0]
          simp only [Bool.toNat_false]
          omega
      · rw [decide_eq_false hkf, Bool.false_and]
        have h0 : nAny q k = 0 := by
          rcases Nat.eq_zero_or_pos (nAny q k) with h | h
          · exact h
          · exact absurd (h2 h) hkf
        rw [h0, if_neg (by omega)]
        simp only [Bool.toNat_false]
        by_cases e : (k : Int) = f
        · rw [if_pos (by omega)] at ih; omega
        · rw [if_neg (by omega)] at ih; omega
  have := key 64 (Nat.le_refl _)
  rw [show cnt (freeN f q) = cntT (freeN f q) 64 from rfl]
  by_cases e : ((64 : Nat) : Int) ≤ f
  · rw [if_pos e] at this; omega
  · rw [if_neg e] at this; exact this

/-- Rise, walked from the left. -/
theorem rise_snoc {m : Nat} {y : Pc} : ∀ (q : List Pc) (last : Int), Rise m last (q ++ [y]) ↔ Rise m last q ∧ hasC m y.c = true ∧ (q.getLast?.map Pc.c).getD last < y.c ∧ y.t ≠ 0
  | [], last => by simp [Rise]
  | z :: q, last => by
    rw [List.cons_append, Rise, rise_snoc q z.c, Rise]
    have e : ((z :: q).getLast?.map Pc.c).getD last = (q.getLast?.map Pc.c).getD z.c := by
      cases q with
      | nil => rfl
      | cons a q => rw [List.getLast?_cons_cons]; cases h : (a :: q).getLast? with
        | none => simp at h
        | some b => rfl
    rw [e]
    constructor
    · rintro ⟨h1, h2, h3, h4, h5, h6, h7⟩; exact ⟨⟨h1, h2, h3, h4⟩, h5, h6, h7⟩
    · rintro ⟨⟨h1, h2, h3, h4⟩, h5, h6, h7⟩; exact ⟨h1, h2, h3, h4, h5, h6, h7⟩
theorem rise_prefix {m : Nat} : ∀ (q r : List Pc) (last : Int), Rise m last (q ++ r) → Rise m last q
  | [], r, last, _ => trivial
  | z :: q, r, last, h => by
    rw [List.cons_append, Rise] at h
    exact ⟨h.1, h.2.1, h.2.2.1, rise_prefix q r _ h.2.2.2⟩
theorem kept_prefix {f : Int} {q r : List Pc} (h : Kept f (q ++ r)) : Kept f q := fun t ht => by
  obtain ⟨h1, h2⟩ := h t ht
  rw [nAny_append] at h1 h2
  exact ⟨by omega, fun h0 => h2 (by omega)⟩
theorem kept_nil (f : Int) : Kept f [] := fun t _ => ⟨Nat.zero_le _, fun h => absurd h (Nat.lt_irrefl 0)⟩
/-- Each piece of a right row lies on a core of the plan. -/
theorem rise_has {m : Nat} : ∀ {q : List Pc} {last : Int}, Rise m last q → ∀ y ∈ q, hasC m y.c = true
  | [], _, _, y, hy => by cases hy
  | z :: q, last, h, y, hy => by
    rcases List.mem_cons.1 hy with rfl | hy
    · exact h.1
    · exact rise_has h.2.2.2 y hy
theorem PlaceOk.has {f : Int} {m : Nat} {x : Pl} (h : PlaceOk f m x) : ∀ y ∈ x.ps, hasC m y.c = true := fun y hy => by
  have hne : x.ps ≠ [] := by intro e; rw [e] at hy; cases hy
  exact rise_has (h.split hne).rise y hy
end Go.Proofs.Ytincbilobmhgeaa

/-
  What a call answers that leaves all as it was.
  Conditions: none.
-/
set_option linter.unusedVariables false
namespace Go.Proofs.Ytincbilobmhgeaa
open Go.RowKit

theorem ret_int {k : IntKind} {a b : Int} (h : a = b) : Ending.returned (.int k a) = .returned (.int k b) := by rw [h]
theorem ret_bool {a b : Bool} (h : a = b) : Ending.returned (.bool a) = .returned (.bool b) := by rw [h]

/-- What a call answers that leaves all as it was. -/
def Ret (v : Value) (w : World) (e : Ending) (w' : World) : Prop := e = .returned v ∧ w = w'
end Go.Proofs.Ytincbilobmhgeaa

/-
  Plans in memory: slices that read as pieces, as places; a plan's box.
  Conditions: none.
-/
set_option linter.unusedVariables false
namespace Go.Proofs.Ytincbilobmhgeaa
open Go.RowKit

theorem heap_lt {W : World} {b : Nat} {o : Obj} (h : W.heap[b]? = some o) : b < W.heap.size := (Array.getElem?_eq_some_iff.1 h).1
theorem cell_same {W W' : World} {b : Nat} (h : W'.heap[b]? = W.heap[b]?) (o : Nat) : W'.cell? ⟨b, o, none⟩ = W.cell? ⟨b, o, none⟩ := World.cell?_of_block (w := W) h
theorem wrap64_small {i : Int} (h0 : -9223372036854775808 ≤ i) (h1 : i ≤ 9223372036854775807) : wrap64 i = i := IntWalk.wrap64_in i ⟨h0, h1⟩
theorem ret_natU {k : IntKind} {a b : Nat} (h : a = b) : Ending.returned (.int k a) = .returned (.int k b) := by rw [h]

/-- But for the blocks of F, what was there is as it was. -/
structure Apart (F : Nat → Prop) (w w' : World) : Prop where
  os : w'.os = w.os
  tape : w'.tape = w.tape
  output : w'.output = w.output
  size : w.heap.size ≤ w'.heap.size
  block : ∀ k, k < w.heap.size → ¬ F k → w'.heap[k]? = w.heap[k]?
theorem Apart.refl (F : Nat → Prop) (w : World) : Apart F w w := ⟨rfl, rfl, rfl, Nat.le_refl _, fun _ _ _ => rfl⟩
theorem Apart.trans {F F' : Nat → Prop} {a b c : World} (h : Apart F a b) (k : Apart F' b c) (hF : ∀ x, x < a.heap.size → F' x → F x) : Apart F a c :=
  ⟨k.os.trans h.os, k.tape.trans h.tape, k.output.trans h.output, Nat.le_trans h.size k.size, fun x hx hn => (k.block x (Nat.lt_of_lt_of_le hx h.size) (fun hf => hn (hF x hx hf))).trans (h.block x hx hn)⟩
theorem Apart.of_below {F : Nat → Prop} {w w' : World} (h : Below w.heap.size w w') : Apart F w w' := ⟨h.os, h.tape, h.output, h.size, fun k hk _ => h.block k hk⟩
theorem Apart.below {F : Nat → Prop} {B : Nat} {w w' : World} (h : Apart F w w') (hB : B ≤ w.heap.size) (hF : ∀ k, k < B → ¬ F k) : Below B w w' :=
  ⟨h.os, h.tape, h.output, h.size, fun k hk => h.block k (by omega) (hF k hk)⟩

theorem Apart.drewN {F : Nat → Prop} {a w : World} (h : Apart F a w) (n : Nat) : Apart F a (w.drewN n) := ⟨h.os, h.tape, h.output, h.size, h.block⟩
theorem Apart.set {F : Nat → Prop} {a w : World} (h : Apart F a w) {p : Addr} (hp : F p.block ∨ a.heap.size ≤ p.block) (u : Value) : Apart F a (w.setCell p u) :=
  h.trans (F' := fun k => k = p.block) ⟨rfl, rfl, rfl, by simp [World.setCell], fun k hk hn => Below.heap_setCell _ _ _ _ hn⟩ (fun x hx e => by
    subst e
    rcases hp with hp | hp
    · exact hp
    · omega)
theorem heap_setCell_mem (w : World) (b o : Nat) (cs : Array Value) (T : TypeId) (fr : Nat × Nat) (x : Value) (h : w.heap[b]? = some (.cells cs T fr)) : (w.setCell ⟨b, o, none⟩ x).heap[b]? = some (.cells (cs.setIfInBounds o x) T fr) := by
  have hlt := (Array.getElem?_eq_some_iff.1 h).1
  have h' : w.heap[b] = .cells cs T fr := by simpa [Array.getElem?_eq_getElem hlt] using h
  show (w.heap.modify b _)[b]? = _
  rw [Array.getElem?_eq_getElem (by simpa using hlt), Array.getElem_modify_self, h']
  rfl
theorem own_keep {w w' : World} {base e size n : Nat} {v : Value} {xs : List Value} (h : w.ownsRow base e size v n xs) (hk : ∀ k, v.ownBlock = some k → w'.heap[k]? = w.heap[k]?) : w'.ownsRow base e size v n xs := by
  obtain ⟨h1, h2⟩ := h
  refine ⟨h1, ?_⟩
  rcases h2 with h2 | ⟨g, cap, cur, rfl, hg, hh, r⟩
  · exact .inl h2
  · exact .inr ⟨g, cap, cur, rfl, hg, (hk g rfl).trans hh, r⟩
theorem own_lt {w : World} {base e size n : Nat} {v : Value} {xs : List Value} (h : w.ownsRow base e size v n xs) {k : Nat} (hk : v.ownBlock = some k) : k < w.heap.size := by
  rcases h.2 with ⟨rfl, h0⟩ | ⟨g, cap, cur, rfl, hg, hh, _⟩
  · cases hk
  · cases hk
    exact heap_lt hh

theorem Try.infoPc : (Try.prog.info? 56).map (fun i => (i.zero, i.size, i.bytes)) = some (some (.agg #[.int .i64 0, .int .u64 0]), 2, 16) := by kernel_rfl
theorem Try.infoPl : (Try.prog.info? 37).map (fun i => (i.zero, i.size, i.bytes)) = some (some (.agg #[.int .i64 0, .int .i64 0, .int .i64 0, .slice none 0 0]), 4, 48) := by kernel_rfl
theorem Try.infoPn : (Try.prog.info? 25).map (fun i => (i.zero, i.size, i.bytes)) = some (some (.agg #[.int .i64 0, .int .u32 0, .slice none 0 0]), 3, 40) := by kernel_rfl

def pcCells (y : Pc) : List Value := [.int .i64 y.c, .int .u64 y.t]
def pcA (y : Pc) : Value := .agg #[.int .i64 y.c, .int .u64 y.t]
/-- A place by value: its pieces' slice beside it. -/
def plA (v : Value) (x : Pl) : Value := .agg #[.int .i64 x.u, .int .i64 x.s, .int .i64 x.c, v]
def planA (f : Int) (m : Nat) (v : Value) : Value := .agg #[.int .i64 f, .int .u32 m, v]
/-- A piece lies at an address. -/
def PcAt (W : World) (b o : Nat) (y : Pc) : Prop := W.cell? ⟨b, o, none⟩ = some (.int .i64 y.c) ∧ W.cell? ⟨b, o + 1, none⟩ = some (.int .u64 y.t)
/-- The value reads as pieces that lie in a block of F. -/
def PcsIn (F : Nat → Prop) (W : World) (v : Value) (ps : List Pc) : Prop :=
  ∃ A c, v = .slice A ps.length c ∧ ps.length ≤ c ∧ c ≤ 9223372036854775807 ∧
    (0 < ps.length → ∃ b off, A = some ⟨b, off, none⟩ ∧ b < W.heap.size ∧ F b ∧ ∀ (j : Nat) (y : Pc), ps[j]? = some y → PcAt W b (off + j * 2) y)
/-- A place lies at an address, its pieces' slice beside it. -/
def PlAt (W : World) (b o : Nat) (p : Value × Pl) : Prop :=
  W.cell? ⟨b, o, none⟩ = some (.int .i64 p.2.u) ∧ W.cell? ⟨b, o + 1, none⟩ = some (.int .i64 p.2.s) ∧ W.cell? ⟨b, o + 2, none⟩ = some (.int .i64 p.2.c) ∧ W.cell? ⟨b, o + 3, none⟩ = some p.1
abbrev plsOf (ls : List (Value × Pl)) : List Pl := ls.map Prod.snd
/-- The value reads as places, each with where its pieces lie; all in blocks of F. -/
def RawIn (F : Nat → Prop) (W : World) (v : Value) (ls : List (Value × Pl)) : Prop :=
  ∃ A c, v = .slice A ls.length c ∧ ls.length ≤ c ∧ c ≤ 9223372036854775807 ∧
    (0 < ls.length → ∃ b off, A = some ⟨b, off, none⟩ ∧ b < W.heap.size ∧ F b ∧ ∀ (j : Nat) (p : Value × Pl), ls[j]? = some p → PlAt W b (off + j * 4) p) ∧ ∀ p ∈ ls, PcsIn F W p.1 p.2.ps
def PlsIn (F : Nat → Prop) (W : World) (v : Value) (l : List Pl) : Prop := ∃ ls, plsOf ls = l ∧ RawIn F W v ls
abbrev Any : Nat → Prop := fun _ => True
abbrev PcsAt := PcsIn Any
abbrev PlsAt := PlsIn Any

theorem PcAt.keep {W W' : World} {b o : Nat} {y : Pc} (h : PcAt W b o y) (hk : W'.heap[b]? = W.heap[b]?) : PcAt W' b o y :=
  ⟨(cell_same hk _).trans h.1, (cell_same hk _).trans h.2⟩
theorem PlAt.keep {W W' : World} {b o : Nat} {p : Value × Pl} (h : PlAt W b o p) (hk : W'.heap[b]? = W.heap[b]?) : PlAt W' b o p :=
  ⟨(cell_same hk _).trans h.1, (cell_same hk _).trans h.2.1, (cell_same hk _).trans h.2.2.1, (cell_same hk _).trans h.2.2.2⟩
theorem PcsIn.mono {F G : Nat → Prop} {W : World} {v : Value} {ps : List Pc} (h : PcsIn F W v ps) (hg : ∀ b, b < W.heap.size → F b → G b) : PcsIn G W v ps := by
  obtain ⟨A, c, h1, h2, h3, h4⟩ := h
  refine ⟨A, c, h1, h2, h3, fun hn => ?_⟩
  obtain ⟨b, off, e, hlt, hf, hc⟩ := h4 hn
  exact ⟨b, off, e, hlt, hg b hlt hf, hc⟩
theorem PcsIn.any {F : Nat → Prop} {W : World} {v : Value} {ps : List Pc} (h : PcsIn F W v ps) : PcsAt W v ps := h.mono fun _ _ _ => trivial
theorem PcsIn.keepF {F : Nat → Prop} {W W' : World} {v : Value} {ps : List Pc} (h : PcsIn F W v ps) (hs : W.heap.size ≤ W'.heap.size) (hk : ∀ b, b < W.heap.size → F b → W'.heap[b]? = W.heap[b]?) : PcsIn F W' v ps := by
  obtain ⟨A, c, h1, h2, h3, h4⟩ := h
  refine ⟨A, c, h1, h2, h3, fun hn => ?_⟩
  obtain ⟨b, off, e, hlt, hf, hc⟩ := h4 hn
  exact ⟨b, off, e, Nat.lt_of_lt_of_le hlt hs, hf, fun j y hy => (hc j y hy).keep (hk b hlt hf)⟩
theorem PcsIn.keep {F : Nat → Prop} {W W' : World} {v : Value} {ps : List Pc} (h : PcsIn F W v ps) (hb : Below W.heap.size W W') : PcsIn F W' v ps := h.keepF hb.size fun b hlt _ => hb.block b hlt
theorem PcsIn.nil (F : Nat → Prop) (W : World) : PcsIn F W (.slice none 0 0) [] := ⟨none, 0, rfl, Nat.le_refl _, by decide, fun h => absurd h (by decide)⟩
theorem PcsIn.form {F : Nat → Prop} {W : World} {v : Value} {ps : List Pc} (h : PcsIn F W v ps) : ∃ A c, v = .slice A ps.length c := by
  obtain ⟨A, c, h1, _⟩ := h
  exact ⟨A, c, h1⟩
theorem PcsIn.bound {F : Nat → Prop} {W : World} {v : Value} {ps : List Pc} (h : PcsIn F W v ps) : ps.length ≤ 9223372036854775807 := by
  obtain ⟨A, c, h1, h2, h3, _⟩ := h
  omega
/-- Piece j: where it lies. -/
theorem PcsIn.at_ {F : Nat → Prop} {W : World} {A : Option Addr} {n c : Nat} {ps : List Pc} (h : PcsIn F W (.slice A n c) ps) {j : Nat} {y : Pc} (hj : ps[j]? = some y) :
    ∃ b off, A = some ⟨b, off, none⟩ ∧ b < W.heap.size ∧ F b ∧ PcAt W b (off + j * 2) y := by
  obtain ⟨A', c', h1, h2, h3, h4⟩ := h
  injection h1 with e1 e2 e3
  subst e1
  obtain ⟨b, off, e, hlt, hf, hc⟩ := h4 (by have := (List.getElem?_eq_some_iff.1 hj).1; omega)
  exact ⟨b, off, e, hlt, hf, hc j y hj⟩

theorem RawIn.mono {F G : Nat → Prop} {W : World} {v : Value} {ls : List (Value × Pl)} (h : RawIn F W v ls) (hg : ∀ b, b < W.heap.size → F b → G b) : RawIn G W v ls := by
  obtain ⟨A, c, h1, h2, h3, h4, h5⟩ := h
  refine ⟨A, c, h1, h2, h3, fun hn => ?_, fun p hp => (h5 p hp).mono hg⟩
  obtain ⟨b, off, e, hlt, hf, hc⟩ := h4 hn
  exact ⟨b, off, e, hlt, hg b hlt hf, hc⟩
theorem RawIn.keepF {F : Nat → Prop} {W W' : World} {v : Value} {ls : List (Value × Pl)} (h : RawIn F W v ls) (hs : W.heap.size ≤ W'.heap.size) (hk : ∀ b, b < W.heap.size → F b → W'.heap[b]? = W.heap[b]?) : RawIn F W' v ls := by
  obtain ⟨A, c, h1, h2, h3, h4, h5⟩ := h
  refine ⟨A, c, h1, h2, h3, fun hn => ?_, fun p hp => (h5 p hp).keepF hs hk⟩
  obtain ⟨b, off, e, hlt, hf, hc⟩ := h4 hn
  exact ⟨b, off, e, Nat.lt_of_lt_of_le hlt hs, hf, fun j p hp => (hc j p hp).keep (hk b hlt hf)⟩
theorem RawIn.keep {F : Nat → Prop} {W W' : World} {v : Value} {ls : List (Value × Pl)} (h : RawIn F W v ls) (hb : Below W.heap.size W W') : RawIn F W' v ls := h.keepF hb.size fun b hlt _ => hb.block b hlt
theorem PlsIn.mono {F G : Nat → Prop} {W : World} {v : Value} {l : List Pl} (h : PlsIn F W v l) (hg : ∀ b, b < W.heap.size → F b → G b) : PlsIn G W v l := by
  obtain ⟨ls, e, h⟩ := h
  exact ⟨ls, e, h.mono hg⟩
theorem PlsIn.any {F : Nat → Prop} {W : World} {v : Value} {l : List Pl} (h : PlsIn F W v l) : PlsAt W v l := h.mono fun _ _ _ => trivial
theorem PlsIn.keepF {F : Nat → Prop} {W W' : World} {v : Value} {l : List Pl} (h : PlsIn F W v l) (hs : W.heap.size ≤ W'.heap.size) (hk : ∀ b, b < W.heap.size → F b → W'.heap[b]? = W.heap[b]?) : PlsIn F W' v l := by
  obtain ⟨ls, e, h⟩ := h
  exact ⟨ls, e, h.keepF hs hk⟩
theorem PlsIn.keep {F : Nat → Prop} {W W' : World} {v : Value} {l : List Pl} (h : PlsIn F W v l) (hb : Below W.heap.size W W') : PlsIn F W' v l := h.keepF hb.size fun b hlt _ => hb.block b hlt
theorem PlsIn.nil (F : Nat → Prop) (W : World) : PlsIn F W (.slice none 0 0) [] := ⟨[], rfl, none, 0, rfl, Nat.le_refl _, by decide, fun h => absurd h (by decide), fun p hp => by cases hp⟩
theorem plsOf_length (ls : List (Value × Pl)) : (plsOf ls).length = ls.length := by simp
theorem PlsIn.form {F : Nat → Prop} {W : World} {v : Value} {l : List Pl} (h : PlsIn F W v l) : ∃ A c, v = .slice A l.length c ∧ l.length ≤ c ∧ c ≤ 9223372036854775807 := by
  obtain ⟨ls, rfl, A, c, h1, h2, h3, _⟩ := h
  exact ⟨A, c, by rw [plsOf_length]; exact h1, by rw [plsOf_length]; exact h2, h3⟩
/-- Place j: where it lies, and its pieces. -/
theorem PlsIn.at_ {F : Nat → Prop} {W : World} {A : Option Addr} {n c : Nat} {l : List Pl} (h : PlsIn F W (.slice A n c) l) {j : Nat} {x : Pl} (hj : l[j]? = some x) :
    ∃ b off B d, A = some ⟨b, off, none⟩ ∧ b < W.heap.size ∧ F b ∧ PlAt W b (off + j * 4) (.slice B x.ps.length d, x) ∧ PcsIn F W (.slice B x.ps.length d) x.ps := by
  obtain ⟨ls, rfl, A', c', h1, h2, h3, h4, h5⟩ := h
  injection h1 with e1 e2 e3
  subst e1
  obtain ⟨p, hp, rfl⟩ : ∃ p, ls[j]? = some p ∧ p.2 = x := by
    rw [List.getElem?_map] at hj
    obtain ⟨p, hp, e⟩ := Option.map_eq_some_iff.1 hj
    exact ⟨p, hp, e⟩
  obtain ⟨b, off, e, hlt, hf, hc⟩ := h4 (by have := (List.getElem?_eq_some_iff.1 hp).1; omega)
  have hps := h5 p (List.mem_of_getElem? hp)
  obtain ⟨B, d, hv⟩ := hps.form
  have hat := hc j p hp
  obtain ⟨u, x⟩ := p
  simp only at hv hps
  subst hv
  exact ⟨b, off, B, d, e, hlt, hf, hat, hps⟩
theorem exP_at {α : Type} {xs : List α} {k : Nat} (h : k < xs.length) : ∃ x, xs[k]? = some x := ⟨xs[k], List.getElem?_eq_getElem h⟩

/-! ### Boxes -/
theorem box_any (W : World) (cs : Array Value) (t : Nat) : ∃ w1 P, W.alloc (.cells cs t) = w1 ∧ W.heap.size = P ∧ P < w1.heap.size ∧ Below W.heap.size W w1 ∧ w1.heap[P]? = some (.cells cs t (0, 0)) :=
  ⟨_, _, rfl, rfl, by simp, (Below.refl _ W).alloc (Nat.le_refl _) _, heap_alloc_new W _⟩
theorem keep_block {W W' : World} {B : Nat} {o : Obj} (h : W.heap[B]? = some o) (hb : Below W.heap.size W W') : W'.heap[B]? = some o := (hb.block B (heap_lt h)).trans h
theorem two_heads {w : World} {P t : Nat} {a b : Value} (h : w.heap[P]? = some (.cells #[a, b] t (0, 0))) : w.cell? ⟨P, 0, none⟩ = some a ∧ w.cell? ⟨P, 1, none⟩ = some b := by
  refine ⟨?_, ?_⟩ <;> simp [World.cell?, h]
theorem three_heads {w : World} {P t : Nat} {a b c : Value} (h : w.heap[P]? = some (.cells #[a, b, c] t (0, 0))) : w.cell? ⟨P, 0, none⟩ = some a ∧ w.cell? ⟨P, 1, none⟩ = some b ∧ w.cell? ⟨P, 2, none⟩ = some c := by
  refine ⟨?_, ?_, ?_⟩ <;> simp [World.cell?, h]
theorem four_heads {w : World} {P t : Nat} {a b c d : Value} (h : w.heap[P]? = some (.cells #[a, b, c, d] t (0, 0))) : w.cell? ⟨P, 0, none⟩ = some a ∧ w.cell? ⟨P, 1, none⟩ = some b ∧ w.cell? ⟨P, 2, none⟩ = some c ∧ w.cell? ⟨P, 3, none⟩ = some d := by
  refine ⟨?_, ?_, ?_, ?_⟩ <;> simp [World.cell?, h]
theorem results_row_tmp {P : Program} {fn : Func} {p u : Tmp} {ty : TypeId} (h : fn.results = #[.cell p ty, .tmp u]) (tmps : Array Value) (w : World) (g : Nat) (t : TypeId) (cs : Array Value) (fr : Nat × Nat) (d : TypeDesc)
    (hp : tmps.getD p undef = .pointer (some ⟨g, 0, none⟩)) (hg : w.heap[g]? = some (.cells cs t fr))
    (hu : P.underlying ty = some d) (hd : (match d with | .struct _ | .array _ _ => true | _ => false) = true) (hi : (P.info? ty).map (·.size) = some cs.size) (x : Value) (hx : tmps.getD u undef = x) :
    (results fn tmps).run P w = .ok (.tuple #[.agg cs, x]) w := by
  rw [results_cell_tmp h, hp, hx]
  simp [asAddr, run_loadVar_row w g t ty cs fr d hg hu hd hi, Result.andThen]
theorem Try.sizeWt (a b : Value) : (Try.prog.info? 83).map (·.size) = some (#[a, b] : Array Value).size := by show _ = some 2; kernel_rfl
theorem Try.sizePl (a b c d : Value) : (Try.prog.info? 37).map (·.size) = some (#[a, b, c, d] : Array Value).size := by show _ = some 4; kernel_rfl
theorem Try.sizePn (a b c : Value) : (Try.prog.info? 25).map (·.size) = some (#[a, b, c] : Array Value).size := by show _ = some 3; kernel_rfl
theorem alloc_block (W : World) (o : Obj) {B : Nat} (h : W.heap.size = B) : (W.alloc o).heap[B]? = some o := by subst h; exact heap_alloc_new W o
/-- What a call answers that makes memory, as a bool that tells P. -/
def RetIff (P : Prop) (w : World) (e : Ending) (w' : World) : Prop := ∃ b : Bool, e = .returned (.bool b) ∧ (b = true ↔ P) ∧ Below w.heap.size w w'
theorem RetIff.yes {P : Prop} {w w' : World} (h : P) (hb : Below w.heap.size w w') : RetIff P w (.returned (.bool true)) w' := ⟨true, rfl, ⟨fun _ => h, fun _ => rfl⟩, hb⟩
theorem RetIff.no {P : Prop} {w w' : World} (h : ¬ P) (hb : Below w.heap.size w w') : RetIff P w (.returned (.bool false)) w' := ⟨false, rfl, ⟨(fun e => by cases e), fun hp => absurd hp h⟩, hb⟩
/-- Of a bool that is told: it is one or the other. -/
theorem calls_iff {P : Program} {f : FuncId} {args : Array Value} {w : World} {Q : Prop} (h : Calls P f args w (RetIff Q w)) : (Q → Calls P f args w (RetB (.bool true) w)) ∧ (¬ Q → Calls P f args w (RetB (.bool false) w)) :=
  ⟨fun hq => h.mono fun e w' ⟨b, he, hb, hw⟩ => ⟨by rw [he, hb.2 hq], hw⟩, fun hq => h.mono fun e w' ⟨b, he, hb, hw⟩ => ⟨by
    rw [he]
    cases b with
    | false => rfl
    | true => exact absurd (hb.1 rfl) hq, hw⟩⟩
end Go.Proofs.Ytincbilobmhgeaa

/-
  Pieces and places held against each other.
  Conditions: the slices read as pieces.
-/
set_option linter.unusedVariables false
namespace Go.Proofs.Ytincbilobmhgeaa
open Go.RowKit

theorem takeP_same {α : Type} {xs ys : List α} {k : Nat} {x y : α} (h : xs.take k = ys.take k) (hx : xs[k]? = some x) (hy : ys[k]? = some y) (e : x = y) : xs.take (k + 1) = ys.take (k + 1) := by
  rw [List.take_add_one, List.take_add_one, h, hx, hy, e]
theorem differP {α : Type} {xs ys : List α} {k : Nat} {x y : α} (hx : xs[k]? = some x) (hy : ys[k]? = some y) (e : x ≠ y) : xs ≠ ys := by
  rintro rfl
  rw [hx] at hy
  exact e (Option.some.inj hy)

theorem pl_no {x y : Pl} (h : x.u ≠ y.u ∨ x.s ≠ y.s ∨ x.c ≠ y.c ∨ x.ps ≠ y.ps) : decide (x = y) = false := decide_eq_false fun e => by
  subst e
  simp at h
theorem pl_same {x y : Pl} (h1 : x.u = y.u) (h2 : x.s = y.s) (h3 : x.c = y.c) : decide (x = y) = decide (x.ps = y.ps) := by
  by_cases h : x.ps = y.ps
  · rw [decide_eq_true h, decide_eq_true (Pl.ext' h1 h2 h3 h)]
  · rw [decide_eq_false h, pl_no (.inr (.inr (.inr h)))]

set_option maxRecDepth 100000 in
set_option maxHeartbeats 4000000 in
theorem refSamePlace_any (u v : Value) (x y : Pl) (w : World) (hs : PcsAt w u x.ps) (ht : PcsAt w v y.ps) :
    Calls Try.prog 19 #[plA u x, plA v y] w (RetB (.bool (decide (x = y))) w) := by
  have HA := Lib.hid hs
  have HB := Lib.hid ht
  have hbA := hs.bound
  have hbB := ht.bound
  obtain ⟨A, c, rfl⟩ := hs.form
  obtain ⟨B, d, rfl⟩ := ht.form
  have HNO := Lib.hid (@pl_no x y)
  have HSA := Lib.hid (@pl_same x y)
  obtain ⟨xu, xs, xc, ps⟩ := x
  obtain ⟨yu, ys, yc, qs⟩ := y
  simp only at *
  obtain ⟨n, hn⟩ : ∃ n, ps.length = n := ⟨_, rfl⟩
  obtain ⟨m, hm⟩ : ∃ m, qs.length = m := ⟨_, rfl⟩
  rw [hn] at HA hbA ⊢
  rw [hm] at HB hbB ⊢
  have HN := Lib.hid hn
  have HM := Lib.hid hm
  obtain ⟨R, hR⟩ : ∃ R, decide ((⟨xu, xs, xc, ps⟩ : Pl) = ⟨yu, ys, yc, qs⟩) = R := ⟨_, rfl⟩
  rw [hR] at HNO HSA ⊢
  obtain ⟨w1, P, hw1, hP, hPl, hb1, hbox⟩ := box_any w #[.int .i64 xu, .int .i64 xs, .int .i64 xc, .slice A n c] 37
  obtain ⟨w2, X, hw2, hX, hXl, hb2, hxbox⟩ := box_any w1 #[.int .i64 yu, .int .i64 ys, .int .i64 yc, .slice B m d] 37
  have HB2 := Lib.hid (hb1.trans (hb2.mono hb1.size))
  have HPB := Lib.hid (keep_block hbox hb2)
  have HXB := Lib.hid hxbox
  obtain ⟨p0, p1, p2, p3⟩ := four_heads HPB.out
  obtain ⟨q0, q1, q2, q3⟩ := four_heads hxbox
  have HA2 := Lib.hid (HA.out.keep HB2.out)
  have HBB2 := Lib.hid (HB.out.keep HB2.out)
  unfold plA
  clear hs ht hn hm hR hb1 hb2 hbox hxbox
  by_cases h1 : xu = yu
  · have e1 : (xu == yu) = true := by simpa using h1
    have e1' : (xu != yu) = false := by simpa using h1
    by_cases h2 : xs = ys
    · have e2 : (xs == ys) = true := by simpa using h2
      have e2' : (xs != ys) = false := by simpa using h2
      by_cases h3 : xc = yc
      · have e3 : (xc == yc) = true := by simpa using h3
        have e3' : (xc != yc) = false := by simpa using h3
        have HR := Lib.hid (HSA.out h1 h2 h3)
        clear h1 h2 h3
        by_cases hne : n = m
        · subst hne
          have hn2 : ((n : Int) != (n : Int)) = false := by simp
          go_enter Try.func19, Try.ntmps19
          go_wp2_with fail
          clear hw1 hP hw2 hX p0 p1 p2 p3 q0 q1 q2 q3
          go_loopg [5] n (fun g i wr => ∃ k : Nat, k ≤ n ∧ g = n - k ∧ i = .int .i64 k ∧ Hid (ps.take k = qs.take k) ∧ Below w2.heap.size w2 wr)
          case atStart => exact ⟨0, Nat.zero_le _, by omega, rfl, rfl, Below.refl _ _⟩
          case round =>
            obtain ⟨k, hk, hg, rfl, HT, hbw⟩ := hrel
            have HG := Lib.hid hg
            have HBW := Lib.hid hbw
            have HBE := Lib.hid (HB2.out.trans (hbw.mono HB2.out.size))
            obtain ⟨p0, p1, p2, p3⟩ := four_heads (keep_block HPB.out hbw)
            obtain ⟨q0, q1, q2, q3⟩ := four_heads (keep_block HXB.out hbw)
            clear hg hbw
            by_cases hlt : k < n
            · have hltz : (k : Int) < (n : Int) := by omega
              have hk0 : (0 : Int) ≤ (k : Int) := by omega
              obtain ⟨x, hx⟩ := exP_at (xs := ps) (k := k) (by rw [HN.out]; exact hlt)
              obtain ⟨y, hy⟩ := exP_at (xs := qs) (k := k) (by rw [HM.out]; exact hlt)
              obtain ⟨b, off, hAe, _, _, x0, x1⟩ := (HA2.out.keep HBW.out).at_ hx
              obtain ⟨b', off', hBe, _, _, y0, y1⟩ := (HBB2.out.keep HBW.out).at_ hy
              subst hAe hBe
              have HTN := Lib.hid (fun e => takeP_same HT hx hy e)
              have HDF := Lib.hid (fun e => differP hx hy e)
              obtain ⟨ac, at_⟩ := x
              obtain ⟨bc, bt⟩ := y
              simp only at x0 x1 y0 y1 HTN HDF
              clear hx hy
              by_cases g1 : ac = bc
              · have f1 : (ac == bc) = true := by simpa using g1
                have f1' : (ac != bc) = false := by simpa using g1
                by_cases g2 : at_ = bt
                · have f2 : ((at_ : Int) == (bt : Int)) = true := by subst g2; simp
                  have f2' : ((at_ : Int) != (bt : Int)) = false := by subst g2; simp
                  have HNX : Hid (ps.take (k + 1) = qs.take (k + 1)) := HTN.out (by rw [g1, g2])
                  clear g1 g2
                  go_wp2_with fail
                  go_quiet (fail)
                  go_wp2_with fail
                  go_roundg (n - (k + 1))
                  case measure => have := HG.out; omega
                  case rel => exact ⟨k + 1, by omega, rfl, by go_num, HNX, below_drewN HBW.out _⟩
                · have f2 : ((at_ : Int) == (bt : Int)) = false := by simp; omega
                  have f2' : ((at_ : Int) != (bt : Int)) = true := by simp; omega
                  have E : Hid (R = false) := HR.out.trans (decide_eq_false (HDF.out (fun h => g2 (by injection h))))
                  clear g1 g2
                  go_wp2_with fail
                  go_quiet (fail)
                  go_wp2_with fail
                  go_ret
                  exact ⟨ret_bool E.out.symm, below_drewN HBE.out _⟩
              · have f1 : (ac == bc) = false := by simpa using g1
                have f1' : (ac != bc) = true := by simpa using g1
                have E : Hid (R = false) := HR.out.trans (decide_eq_false (HDF.out (fun h => g1 (by injection h))))
                clear g1
                go_wp2_with fail
                go_quiet (fail)
                go_wp2_with fail
                go_ret
                exact ⟨ret_bool E.out.symm, below_drewN HBE.out _⟩
            · have hltz : ¬ (k : Int) < (n : Int) := by omega
              have E : Hid (R = true) := HR.out.trans (decide_eq_true (show ps = qs by
                have h : ps.take k = qs.take k := HT
                rwa [List.take_of_length_le (by rw [HN.out]; omega), List.take_of_length_le (by rw [HM.out]; omega)] at h))
              go_wp2_with fail
              go_ret
              exact ⟨ret_bool E.out.symm, HBE.out⟩
        · have E : Hid (R = false) := HR.out.trans (decide_eq_false (show ¬ ps = qs from fun e => hne (by rw [← HN.out, ← HM.out, e])))
          have hn2 : ((n : Int) != (m : Int)) = true := by simp; omega
          clear hne
          go_enter Try.func19, Try.ntmps19
          go_wp2_with fail
          go_ret
          exact ⟨ret_bool E.out.symm, HB2.out⟩
      · have e3 : (xc == yc) = false := by simpa using h3
        have e3' : (xc != yc) = true := by simpa using h3
        have E : Hid (R = false) := HNO.out (.inr (.inr (.inl h3)))
        clear h1 h2 h3
        go_enter Try.func19, Try.ntmps19
        go_wp2_with fail
        go_ret
        exact ⟨ret_bool E.out.symm, HB2.out⟩
    · have e2 : (xs == ys) = false := by simpa using h2
      have e2' : (xs != ys) = true := by simpa using h2
      have E : Hid (R = false) := HNO.out (.inr (.inl h2))
      clear h1 h2
      go_enter Try.func19, Try.ntmps19
      go_wp2_with fail
      go_ret
      exact ⟨ret_bool E.out.symm, HB2.out⟩
  · have e1 : (xu == yu) = false := by simpa using h1
    have e1' : (xu != yu) = true := by simpa using h1
    have E : Hid (R = false) := HNO.out (.inl h1)
    clear h1
    go_enter Try.func19, Try.ntmps19
    go_wp2_with fail
    go_ret
    exact ⟨ret_bool E.out.symm, HB2.out⟩
end Go.Proofs.Ytincbilobmhgeaa
