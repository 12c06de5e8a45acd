/-
  Picks alone: who got how many; nobody's part is far from that by its weight.
  Conditions: none.
-/
import Derived.Test.YtanchjcifhbllaaRingSim
set_option linter.unusedVariables false
namespace Go.Proofs.Ytanchjcifhbllaa

/-- The same member, later, with picks alone between. -/
structure Later (a b : Mb) : Prop where
  id : b.id = a.id
  w : b.w = a.w
  on : b.on = a.on
  n : a.n ≤ b.n
  off : a.on = false → b.n = a.n
theorem Later.refl (a : Mb) : Later a a := ⟨rfl, rfl, rfl, Nat.le_refl _, fun _ => rfl⟩
def Since : List Mb → List Mb → Prop
  | [], [] => True
  | a :: l0, b :: l => Later a b ∧ Since l0 l
  | _, _ => False
theorem Since.refl : ∀ l : List Mb, Since l l
  | [] => trivial
  | a :: l => ⟨Later.refl a, Since.refl l⟩
/-- All picks since then. -/
def gotS : List Mb → List Mb → Nat
  | a :: l0, b :: l => (b.n - a.n) + gotS l0 l
  | _, _ => 0
theorem gotS_self : ∀ l : List Mb, gotS l l = 0
  | [] => rfl
  | a :: l => by unfold gotS; rw [gotS_self l]; omega
theorem Since.len : ∀ {l0 l : List Mb}, Since l0 l → l.length = l0.length
  | [], [], _ => rfl
  | a :: l0, b :: l, h => by rw [List.length_cons, List.length_cons, h.2.len]
  | [], b :: l, h => h.elim
  | a :: l0, [], h => h.elim
theorem Since.at_ : ∀ {l0 l : List Mb}, Since l0 l → ∀ {k : Nat} {a b : Mb}, l0[k]? = some a → l[k]? = some b → Later a b
  | [], [], _, k, a, b, h, _ => by simp at h
  | a :: l0, b :: l, h, 0, x, y, hx, hy => by
    simp at hx hy
    subst hx hy
    exact h.1
  | a :: l0, b :: l, h, k + 1, x, y, hx, hy => h.2.at_ (k := k) (by simpa using hx) (by simpa using hy)
  | [], b :: l, h, _, _, _, _, _ => h.elim
  | a :: l0, [], h, _, _, _, _, _ => h.elim
theorem Since.some_ {l0 l : List Mb} (h : Since l0 l) {k : Nat} {a : Mb} (ha : l0[k]? = some a) : ∃ b, l[k]? = some b ∧ Later a b := by
  have hk := (List.getElem?_eq_some_iff.1 ha).1
  have hl := h.len
  have hb : l[k]? = some l[k] := List.getElem?_eq_getElem (by omega)
  exact ⟨_, hb, h.at_ ha hb⟩
theorem Since.pick : ∀ {l0 l : List Mb}, Since l0 l → ∀ {k : Nat} {m : Mb}, l[k]? = some m → m.on = true → Since l0 (l.set k { m with n := m.n + 1 }) ∧ gotS l0 (l.set k { m with n := m.n + 1 }) = gotS l0 l + 1
  | [], [], _, k, m, h, _ => by simp at h
  | a :: l0, b :: l, h, 0, m, hk, ho => by
    simp at hk
    subst hk
    obtain ⟨⟨h1, h2, h3, h4, h5⟩, hr⟩ := h
    refine ⟨⟨⟨h1, h2, h3, Nat.le_succ_of_le h4, fun e => ?_⟩, hr⟩, ?_⟩
    · rw [h3, e] at ho
      cases ho
    · show (b.n + 1 - a.n) + gotS l0 l = (b.n - a.n) + gotS l0 l + 1
      omega
  | a :: l0, b :: l, h, k + 1, m, hk, ho => by
    obtain ⟨i1, i2⟩ := h.2.pick (k := k) (m := m) (by simpa using hk) ho
    refine ⟨⟨h.1, i1⟩, ?_⟩
    show (b.n - a.n) + gotS l0 (l.set k _) = (b.n - a.n) + gotS l0 l + 1
    omega
  | [], b :: l, h, _, _, _, _ => h.elim
  | a :: l0, [], h, _, _, _, _ => h.elim

/-- How many are on, and their weights together. -/
def cntOn : List Mb → Nat
  | [] => 0
  | a :: l => (if a.on = true then 1 else 0) + cntOn l
def sumOn : List Mb → Nat
  | [] => 0
  | a :: l => (if a.on = true then a.w else 0) + sumOn l
theorem sum_mem : ∀ {l : List Mb} {a : Mb}, a ∈ l → a.on = true → a.w ≤ sumOn l ∧ 1 ≤ cntOn l
  | x :: l, a, h, ho => by
    unfold sumOn cntOn
    rcases List.mem_cons.1 h with rfl | h
    · rw [if_pos ho, if_pos ho]
      omega
    · have := sum_mem h ho
      omega
theorem cnt_none : ∀ {l : List Mb}, (∀ m ∈ l, m.on = false) → cntOn l = 0
  | [], _ => rfl
  | x :: l, h => by
    unfold cntOn
    rw [h x (List.mem_cons_self ..), cnt_none fun m hm => h m (List.mem_cons_of_mem _ hm)]
    rfl
theorem Since.sums : ∀ {l0 l : List Mb}, Since l0 l → sumOn l = sumOn l0 ∧ cntOn l = cntOn l0
  | [], [], _ => ⟨rfl, rfl⟩
  | a :: l0, b :: l, h => by
    obtain ⟨i1, i2⟩ := h.2.sums
    unfold sumOn cntOn
    rw [i1, i2, h.1.on, h.1.w]
    exact ⟨rfl, rfl⟩
  | [], b :: l, h => h.elim
  | a :: l0, [], h => h.elim
theorem sum_le : ∀ {l : List Mb}, (∀ m ∈ l, m.w ≤ 1000) → sumOn l ≤ 1000 * cntOn l ∧ cntOn l ≤ l.length
  | [], _ => ⟨Nat.le_refl _, Nat.le_refl _⟩
  | a :: l, h => by
    obtain ⟨i1, i2⟩ := sum_le fun m hm => h m (List.mem_cons_of_mem _ hm)
    have := h a (List.mem_cons_self ..)
    unfold sumOn cntOn
    rw [List.length_cons]
    split <;> omega

/-- Nobody who is on is far ahead of another one. -/
def Near (l : List Mb) : Prop := ∀ x ∈ l, ∀ y ∈ l, x.on = true → y.on = true → x.n * y.w ≤ y.n * x.w + y.w
theorem Hugs.all {C : Nat} {s : Rg} (h : Hugs s) (hf : Fit C s) : Near s.l := by
  intro x hx y hy hxo hyo
  obtain ⟨f1, _, _⟩ := hf.floor
  have k1 := (h x hx hxo).2
  have k2 := (h y hy hyo).1
  have a1 := Nat.mul_le_mul_right y.w k1
  have a2 := Nat.mul_le_mul_right x.w k2
  rw [Nat.add_mul] at a1
  refine Nat.le_of_mul_le_mul_right (c := (floorN s).2) ?_ f1
  rw [Nat.add_mul]
  have e1 : x.n * (floorN s).2 * y.w = x.n * y.w * (floorN s).2 := mul3 _ _ _
  have e2 : (floorN s).1 * x.w * y.w = (floorN s).1 * y.w * x.w := mul3 _ _ _
  have e3 : y.n * (floorN s).2 * x.w = y.n * x.w * (floorN s).2 := mul3 _ _ _
  have e4 : (floorN s).2 * y.w = y.w * (floorN s).2 := Nat.mul_comm _ _
  omega
theorem pair_near {an aw bn cn cw dn : Nat} (h1 : cn * aw ≤ an * cw + aw) (h2 : an * cw ≤ cn * aw + cw) (k1 : bn * cw ≤ dn * aw + cw) (k2 : dn * aw ≤ bn * cw + aw) :
    ((bn : Int) - an) * cw - aw * ((dn : Int) - cn) ≤ aw + cw ∧ -((aw : Int) + cw) ≤ ((bn : Int) - an) * cw - aw * ((dn : Int) - cn) := by
  have e : ((bn : Int) - an) * cw - aw * ((dn : Int) - cn) = (bn * cw : Nat) - (an * cw : Nat) - (dn * aw : Nat) + (cn * aw : Nat) := by
    rw [Int.sub_mul, Int.mul_sub, Int.mul_comm (aw : Int) dn, Int.mul_comm (aw : Int) cn, Int.natCast_mul, Int.natCast_mul, Int.natCast_mul, Int.natCast_mul]
    omega
  rw [e]
  omega
/-- What one got beside all others. -/
def pullI (a b : Mb) (l0 l : List Mb) : Int := ((b.n : Int) - a.n) * (sumOn l0 : Int) - (a.w : Int) * (gotS l0 l : Int)
theorem pull_cons {a b c d : Mb} {l0 l : List Mb} (h : Later c d) : pullI a b (c :: l0) (d :: l) = (if c.on = true then ((b.n : Int) - a.n) * c.w - (a.w : Int) * ((d.n : Int) - c.n) else 0) + pullI a b l0 l := by
  have hn := h.n
  have hg : ((gotS (c :: l0) (d :: l) : Nat) : Int) = ((d.n : Int) - c.n) + (gotS l0 l : Nat) := by
    show ((d.n - c.n + gotS l0 l : Nat) : Int) = _
    omega
  unfold pullI
  rw [hg, Int.mul_add]
  cases ho : c.on with
  | true =>
    have hs : ((sumOn (c :: l0) : Nat) : Int) = (c.w : Int) + (sumOn l0 : Nat) := by
      show (((if c.on = true then c.w else 0) + sumOn l0 : Nat) : Int) = _
      rw [if_pos ho]
      omega
    rw [hs, Int.mul_add, if_pos rfl]
    omega
  | false =>
    have hs : ((sumOn (c :: l0) : Nat) : Int) = (sumOn l0 : Nat) := by
      show (((if c.on = true then c.w else 0) + sumOn l0 : Nat) : Int) = _
      rw [ho]
      simp
    rw [hs, h.off ho, if_neg (by simp)]
    rw [Int.sub_self, Int.mul_zero]
    omega
theorem pull_rest {a b : Mb} {Wt : Int} (ha : Later a b) : ∀ {l0 l : List Mb}, Since l0 l →
    (∀ c ∈ l0, c.on = true → (a.w : Int) + c.w ≤ Wt ∧ c.n * a.w ≤ a.n * c.w + a.w ∧ a.n * c.w ≤ c.n * a.w + c.w) →
    (∀ d ∈ l, d.on = true → b.n * d.w ≤ d.n * b.w + d.w ∧ d.n * b.w ≤ b.n * d.w + b.w) →
    pullI a b l0 l ≤ cntOn l0 * Wt ∧ -((cntOn l0 : Int) * Wt) ≤ pullI a b l0 l
  | [], [], _, _, _ => by
    unfold pullI
    simp [sumOn, gotS, cntOn]
  | c :: l0, d :: l, h, h0, h1 => by
    obtain ⟨i1, i2⟩ := pull_rest ha h.2 (fun x hx => h0 x (List.mem_cons_of_mem _ hx)) (fun x hx => h1 x (List.mem_cons_of_mem _ hx))
    rw [pull_cons h.1]
    cases ho : c.on with
    | true =>
      obtain ⟨j1, j2, j3⟩ := h0 c (List.mem_cons_self ..) ho
      obtain ⟨k1, k2⟩ := h1 d (List.mem_cons_self ..) (by rw [h.1.on]; exact ho)
      rw [h.1.w, ha.w] at k1 k2
      obtain ⟨p1, p2⟩ := pair_near j2 j3 k1 k2
      have hc : ((cntOn (c :: l0) : Nat) : Int) = 1 + (cntOn l0 : Nat) := by
        show (((if c.on = true then 1 else 0) + cntOn l0 : Nat) : Int) = _
        rw [if_pos ho]
        omega
      rw [hc, Int.add_mul, Int.one_mul, if_pos rfl]
      omega
    | false =>
      have hc : ((cntOn (c :: l0) : Nat) : Int) = (cntOn l0 : Nat) := by
        show (((if c.on = true then 1 else 0) + cntOn l0 : Nat) : Int) = _
        rw [ho]
        simp
      rw [hc, if_neg (by simp)]
      omega
  | [], b :: l, h, _, _ => h.elim
  | a :: l0, [], h, _, _ => h.elim
theorem pull_at {a b : Mb} {Wt : Int} (ha : Later a b) (hao : a.on = true) : ∀ {l0 l : List Mb}, Since l0 l → ∀ {k : Nat}, l0[k]? = some a → l[k]? = some b → (sumOn l0 : Int) ≤ Wt →
    (∀ c ∈ l0, c.on = true → c.n * a.w ≤ a.n * c.w + a.w ∧ a.n * c.w ≤ c.n * a.w + c.w) →
    (∀ d ∈ l, d.on = true → b.n * d.w ≤ d.n * b.w + d.w ∧ d.n * b.w ≤ b.n * d.w + b.w) →
    pullI a b l0 l ≤ ((cntOn l0 : Int) - 1) * Wt ∧ -(((cntOn l0 : Int) - 1) * Wt) ≤ pullI a b l0 l
  | [], [], _, k, hk, _, _, _, _ => by simp at hk
  | c :: l0, d :: l, h, 0, hk, hk', hW, h0, h1 => by
    simp at hk hk'
    subst hk hk'
    have hs : ((sumOn (c :: l0) : Nat) : Int) = (c.w : Int) + (sumOn l0 : Nat) := by
      show (((if c.on = true then c.w else 0) + sumOn l0 : Nat) : Int) = _
      rw [if_pos hao]
      omega
    have hc : ((cntOn (c :: l0) : Nat) : Int) - 1 = (cntOn l0 : Nat) := by
      show (((if c.on = true then 1 else 0) + cntOn l0 : Nat) : Int) - 1 = _
      rw [if_pos hao]
      omega
    rw [pull_cons h.1, if_pos hao, hc]
    have e : ((d.n : Int) - c.n) * c.w - (c.w : Int) * ((d.n : Int) - c.n) = 0 := by rw [Int.mul_comm ((d.n : Int) - c.n) (c.w : Int), Int.sub_self]
    rw [e, Int.zero_add]
    refine pull_rest ha h.2 (fun x hx ho => ?_) (fun x hx => h1 x (List.mem_cons_of_mem _ hx))
    refine ⟨?_, h0 x (List.mem_cons_of_mem _ hx) ho⟩
    have := (sum_mem hx ho).1
    omega
  | c :: l0, d :: l, h, k + 1, hk, hk', hW, h0, h1 => by
    have hk0 : l0[k]? = some a := by simpa using hk
    have hk1 : l[k]? = some b := by simpa using hk'
    have hsl : ((sumOn (c :: l0) : Nat) : Int) = ((if c.on = true then c.w else 0 : Nat) : Int) + (sumOn l0 : Nat) := by
      show (((if c.on = true then c.w else 0) + sumOn l0 : Nat) : Int) = _
      omega
    have haw := (sum_mem (List.mem_of_getElem? hk0) hao).1
    obtain ⟨i1, i2⟩ := pull_at (Wt := Wt) ha hao h.2 hk0 hk1 (by omega) (fun x hx => h0 x (List.mem_cons_of_mem _ hx)) (fun x hx => h1 x (List.mem_cons_of_mem _ hx))
    rw [pull_cons h.1]
    cases ho : c.on with
    | true =>
      obtain ⟨j2, j3⟩ := h0 c (List.mem_cons_self ..) ho
      obtain ⟨k1, k2⟩ := h1 d (List.mem_cons_self ..) (by rw [h.1.on]; exact ho)
      rw [h.1.w, ha.w] at k1 k2
      obtain ⟨p1, p2⟩ := pair_near j2 j3 k1 k2
      have hc : ((cntOn (c :: l0) : Nat) : Int) - 1 = 1 + ((cntOn l0 : Nat) - 1) := by
        show (((if c.on = true then 1 else 0) + cntOn l0 : Nat) : Int) - 1 = _
        rw [if_pos ho]
        omega
      rw [ho, if_pos rfl] at hsl
      rw [hc, Int.add_mul, Int.one_mul, if_pos rfl]
      omega
    | false =>
      have hc : ((cntOn (c :: l0) : Nat) : Int) = (cntOn l0 : Nat) := by
        show (((if c.on = true then 1 else 0) + cntOn l0 : Nat) : Int) = _
        rw [ho]
        simp
      rw [hc, if_neg (by simp)]
      omega
  | [], b :: l, h, _, _, _, _, _, _ => h.elim
  | a :: l0, [], h, _, _, _, _, _, _ => h.elim
/-- Each one who is on has its part by weight, but for as many picks as there are others. -/
theorem fair_one {l0 l : List Mb} (h : Since l0 l) (h0 : Near l0) (h1 : Near l) {k : Nat} {a b : Mb} (ha : l0[k]? = some a) (hb : l[k]? = some b) (hao : a.on = true) :
    ((b.n - a.n : Nat) : Int) * sumOn l0 - (a.w : Int) * gotS l0 l ≤ ((cntOn l0 : Int) - 1) * sumOn l0 ∧ -((((b.n - a.n : Nat) : Int) * sumOn l0 - (a.w : Int) * gotS l0 l)) ≤ ((cntOn l0 : Int) - 1) * sumOn l0 := by
  have hl := h.at_ ha hb
  have hbo : b.on = true := by rw [hl.on]; exact hao
  have hn := hl.n
  obtain ⟨i1, i2⟩ := pull_at hl hao h ha hb (Int.le_refl _)
    (fun c hc ho => ⟨h0 c hc a (List.mem_of_getElem? ha) ho hao, h0 a (List.mem_of_getElem? ha) c hc hao ho⟩)
    (fun d hd ho => ⟨h1 b (List.mem_of_getElem? hb) d hd hbo ho, h1 d hd b (List.mem_of_getElem? hb) ho hbo⟩)
  have e : ((b.n - a.n : Nat) : Int) = (b.n : Int) - a.n := by omega
  rw [e]
  unfold pullI at i1 i2
  omega
/-- Who got nothing of so many picks: they are few. -/
theorem wait_one {l0 l : List Mb} (h : Since l0 l) (h0 : Near l0) (h1 : Near l) {k : Nat} {a b : Mb} (ha : l0[k]? = some a) (hb : l[k]? = some b) (hao : a.on = true) (hn : b.n = a.n) :
    a.w * gotS l0 l ≤ (cntOn l0 - 1) * sumOn l0 := by
  obtain ⟨_, i2⟩ := fair_one h h0 h1 ha hb hao
  rw [hn, Nat.sub_self] at i2
  have hc := (sum_mem (List.mem_of_getElem? ha) hao).2
  have e : ((cntOn l0 : Int) - 1) = ((cntOn l0 - 1 : Nat) : Int) := by omega
  rw [e] at i2
  have : ((a.w * gotS l0 l : Nat) : Int) ≤ (((cntOn l0 - 1) * sumOn l0 : Nat) : Int) := by
    rw [Int.natCast_mul, Int.natCast_mul]
    simp only [Int.ofNat_zero, Int.zero_mul] at i2
    omega
  exact Int.ofNat_le.1 this
end Go.Proofs.Ytanchjcifhbllaa
