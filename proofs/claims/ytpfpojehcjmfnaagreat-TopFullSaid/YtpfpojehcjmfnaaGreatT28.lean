/-
  A map of the call's own that counts ticks, and what lies beside it.
  Conditions: the numbers are small.
-/
import Derived.Test.YtpfpojehcjmfnaaGreatT27
import Derived.Test.YtpfpojehcjmfnaaGreatT26
import Derived.Test.YtpfpojehcjmfnaaGreatT09
import Derived.Test.YtpfpojehcjmfnaaGreatT23
import Derived.Test.YtpfpojehcjmfnaaGreatT25
import Derived.Maps.Own
import Derived.Maps.OwnOps
import Derived.Maps.OwnSet
import Derived.Maps.Views

/-
  Busy of the program, At of the document.
  Conditions: the slice reads as tables.
-/
set_option linter.unusedVariables false
set_option linter.unusedSimpArgs false
namespace Go.Proofs.YtpfpojehcjmfnaaGreat
open Go.RowKit Go.Sort

end Go.Proofs.YtpfpojehcjmfnaaGreat

/-
  The law of ticks: TableAt.
  Conditions: the slice reads as places; the numbers are of their kinds.
-/
set_option linter.unusedVariables false
set_option linter.unusedSimpArgs false
namespace Go.Proofs.YtpfpojehcjmfnaaGreat
open Go.RowKit

theorem tabs_nodup (n m : Nat) (l : List Pl) : ((tabsOf n m l).map Tb.c).Nodup := by
  unfold tabsOf ticksI
  rw [List.map_map, List.map_map]
  have h : (ticksT m 16).Nodup := (List.nodup_range).filter _
  rw [List.Nodup, List.pairwise_map]
  exact h.imp fun hne e => hne (by have e' := e; simp only [Function.comp, tabOf] at e'; omega)
theorem at_self {l : List Tb} (hn : (l.map Tb.c).Nodup) {i : Nat} {x : Tb} (hx : l[i]? = some x) {t : Int} : atT l x.c t = ownerT x t := by
  refine at_first hx rfl fun j y hj hy e => ?_
  obtain ⟨h1, h2⟩ := List.getElem?_eq_some_iff.1 hx
  obtain ⟨h3, h4⟩ := List.getElem?_eq_some_iff.1 hy
  rw [List.Nodup, List.pairwise_map, List.pairwise_iff_getElem] at hn
  have := hn j i h3 h1 hj
  rw [h2, h4] at this
  exact this e
end Go.Proofs.YtpfpojehcjmfnaaGreat

/-
  What tables of a right plan are together: nobody twice at a tick, all shares met, loose ticks enough.
  Conditions: none.
-/
set_option linter.unusedVariables false
namespace Go.Proofs.YtpfpojehcjmfnaaGreat

theorem own_ex {c : Int} {t : Nat} : ∀ (l : List Pl) (a : Int), (l.foldl (ownS c t) a = a ∧ ∀ x ∈ l, nOn x.ps c t = 0) ∨ ∃ y ∈ l, l.foldl (ownS c t) a = y.u ∧ 0 < nOn y.ps c t
  | [], a => .inl ⟨rfl, fun x hx => by cases hx⟩
  | x :: l, a => by
    rw [List.foldl_cons]
    rcases own_ex (c := c) (t := t) l (ownS c t a x) with ⟨h1, h2⟩ | ⟨y, hy, h1, h2⟩
    · by_cases hx : 0 < nOn x.ps c t
      · refine .inr ⟨x, by simp, ?_, hx⟩
        rw [h1]
        exact if_pos hx
      · refine .inl ⟨?_, fun y hy => ?_⟩
        · rw [h1]
          exact if_neg hx
        · rcases List.mem_cons.1 hy with rfl | hy
          · omega
          · exact h2 y hy
    · exact .inr ⟨y, by simp [hy], h1, h2⟩
theorem nOn_mem {l : List Pl} {x : Pl} (h : x ∈ l) (c : Int) (t : Nat) : nOn x.ps c t ≤ nOn (pcsOf l) c t := by
  obtain ⟨a, b, rfl⟩ := List.append_of_mem h
  unfold pcsOf
  rw [List.flatMap_append, List.flatMap_cons, nOn_append, nOn_append]
  omega
theorem one_only {l : List Pl} {x y : Pl} {c : Int} {t : Nat} (h : nOn (pcsOf l) c t ≤ 1) (hx : x ∈ l) (hy : y ∈ l) (hx0 : 0 < nOn x.ps c t) (hy0 : 0 < nOn y.ps c t) : y = x := by
  obtain ⟨a, b, rfl⟩ := List.append_of_mem hx
  have e : nOn (pcsOf (a ++ x :: b)) c t = nOn (pcsOf a) c t + nOn x.ps c t + nOn (pcsOf b) c t := by
    unfold pcsOf
    rw [List.flatMap_append, List.flatMap_cons, nOn_append, nOn_append]
    omega
  rcases List.mem_append.1 hy with hy | hy
  · have := nOn_mem hy c t; omega
  · rcases List.mem_cons.1 hy with rfl | hy
    · rfl
    · have := nOn_mem hy c t; omega
theorem own_is {l : List Pl} {x : Pl} {c : Int} {t : Nat} (h : nOn (pcsOf l) c t ≤ 1) (hx : x ∈ l) (hx0 : 0 < nOn x.ps c t) : ownF l c t = x.u := by
  rcases own_ex (c := c) (t := t) l 0 with ⟨_, h2⟩ | ⟨y, hy, h1, h2⟩
  · have := h2 x hx; omega
  · rw [one_only h hx hy hx0 h2] at h1
    exact h1
theorem own_someT {l : List Pl} {c : Int} {t : Nat} (h : ownF l c t ≠ 0) : ∃ y ∈ l, ownF l c t = y.u ∧ 0 < nOn y.ps c t := by
  rcases own_ex (c := c) (t := t) l 0 with ⟨h1, _⟩ | h
  · exact absurd h1 h
  · exact h
theorem Right.unit_eq {f : Int} {m : Nat} {l : List Pl} (h : Right f m l) {x y : Pl} (hx : x ∈ l) (hy : y ∈ l) (e : x.u = y.u) : x = y := by
  obtain ⟨i, hi⟩ := List.getElem?_of_mem hx
  obtain ⟨j, hj⟩ := List.getElem?_of_mem hy
  rcases Nat.lt_trichotomy i j with hlt | heq | hlt
  · have := h.rise hlt hi hj; omega
  · subst heq
    rw [hi] at hj
    exact Option.some.inj hj
  · have := h.rise hlt hj hi; omega
theorem unit_pos {f : Int} {m : Nat} {l : List Pl} (h : Right f m l) {x : Pl} (hx : x ∈ l) : 1 ≤ x.u ∧ x.u ≤ 1040 := by
  have := (h.place x hx).unit
  simp [isU] at this
  omega
theorem core_of {m : Nat} {c : Int} (h : c ∈ ticksI m 16) : ∃ q : Nat, c = (q : Int) ∧ q < 16 ∧ m.testBit q = true := by
  unfold ticksI at h
  obtain ⟨q, hq, rfl⟩ := List.mem_map.1 h
  unfold ticksT at hq
  obtain ⟨h1, h2⟩ := List.mem_filter.1 hq
  exact ⟨q, rfl, List.mem_range.1 h1, h2⟩
theorem core_in {m : Nat} {c : Int} (h : hasC m c = true) : c ∈ ticksI m 16 := by
  have hr := hasC_range h
  obtain ⟨q, rfl⟩ : ∃ q : Nat, c = (q : Int) := ⟨c.toNat, by omega⟩
  rw [hasC_nat (by omega)] at h
  unfold ticksI
  refine List.mem_map.2 ⟨q, ?_, rfl⟩
  unfold ticksT
  exact List.mem_filter.2 ⟨List.mem_range.2 (by omega), h⟩
theorem cores_nodup (m : Nat) : (ticksI m 16).Nodup := by
  unfold ticksI
  have h : (ticksT m 16).Nodup := (List.nodup_range).filter _
  rw [List.Nodup, List.pairwise_map]
  exact h.imp fun hne e => hne (by omega)
theorem count_one {l : List Int} {a : Int} (hn : l.Nodup) (h : a ∈ l) : l.countP (fun c => decide (c = a)) = 1 := by
  induction l with
  | nil => cases h
  | cons x r ih =>
    rw [List.nodup_cons] at hn
    rw [List.countP_cons]
    by_cases e : x = a
    · subst e
      have : r.countP (fun c => decide (c = x)) = 0 := by
        rw [List.countP_eq_zero]
        intro y hy
        simp
        intro e
        exact hn.1 (e ▸ hy)
      rw [this]
      simp
    · rw [ih hn.2 (by simpa [Ne.symm e] using h)]
      simp [e]
theorem nOn_two {c c' : Int} (h : c ≠ c') (t : Nat) : ∀ q : List Pc, nOn q c t + nOn q c' t ≤ nAny q t
  | [] => by simp [nOn, nAny]
  | y :: q => by
    have ih := nOn_two h t q
    unfold nOn nAny at *
    rw [List.countP_cons, List.countP_cons, List.countP_cons]
    unfold onB at *
    by_cases h1 : y.c = c <;> by_cases h2 : y.c = c' <;> cases hb : y.t.testBit t <;> simp [h1, h2, h, Ne.symm h] <;> omega
/-- On how many cores pieces run at a tick. -/
theorem cores_any_cnt {m : Nat} {q : List Pc} {t : Nat} (h1 : nAny q t ≤ 1) (hc : ∀ y ∈ q, hasC m y.c = true) : (ticksI m 16).countP (fun c => decide (0 < nOn q c t)) = nAny q t := by
  rcases Nat.eq_zero_or_pos (nAny q t) with h0 | h0
  · rw [h0, List.countP_eq_zero]
    intro c _
    have := nOn_le_any q c t
    simp
    omega
  · obtain ⟨y, hy, hb⟩ := nAny_pos.1 h0
    have e : (fun c => decide (0 < nOn q c t)) = fun c => decide (c = y.c) := by
      funext c
      rw [decide_eq_decide]
      constructor
      · intro h
        apply Classical.byContradiction
        intro hne
        have h2 : 0 < nOn q y.c t := nOn_pos.2 ⟨y, hy, rfl, hb⟩
        have := nOn_two hne t q
        omega
      · rintro rfl
        exact nOn_pos.2 ⟨y, hy, rfl, hb⟩
    rw [e, count_one (cores_nodup m) (core_in (hc y hy))]
    omega

section
variable {n m : Nat} {l : List Pl}
theorem ownerT_of (c : Int) {t : Nat} (h : t < n) : ownerT (tabOf n l c) (t : Int) = ownF l c t := by
  unfold ownerT
  rw [if_neg (by omega), Int.toNat_natCast]
  show ((rowN n (ownF l c))[t]?).getD 0 = _
  rw [rowN_get _ h]
  rfl
theorem busy_of {t : Nat} (h : t < n) : busyT (tabsOf n m l) (t : Int) = ((ticksI m 16).map fun c => ownF l c t).filter fun u => !decide (u = 0) := by
  unfold busyT tabsOf
  rw [List.map_map]
  congr 1
  exact List.map_congr_left fun c _ => ownerT_of c h
theorem busy_cnt (hR : Right n m l) {x : Pl} (hx : x ∈ l) {t : Nat} (h : t < n) : cntI (busyT (tabsOf n m l) (t : Int)) x.u = nAny x.ps t := by
  have hu := unit_pos hR hx
  have h64 : t < 64 := by have := hR.f64; omega
  have hp := hR.place x hx
  have h1 : nAny x.ps t ≤ 1 := by
    by_cases e : x.ps = []
    · rw [e]; exact Nat.zero_le _
    · exact ((hp.split e).kept t h64).1
  rw [← cores_any_cnt h1 (fun y hy => hp.has y hy), busy_of h]
  unfold cntI
  rw [List.countP_filter, List.countP_map]
  refine List.countP_congr fun c hc => ?_
  obtain ⟨q, rfl, hq, _⟩ := core_of hc
  simp only [Function.comp, Bool.and_eq_true, decide_eq_true_eq, Bool.not_eq_true', decide_eq_false_iff_not]
  constructor
  · rintro ⟨e, h0⟩
    obtain ⟨y, hy, hyu, hy0⟩ := own_someT h0
    rw [e] at hyu
    rw [hR.unit_eq hx hy hyu]
    exact hy0
  · intro h0
    have e := own_is (hR.apart q hq t h64) hx h0
    exact ⟨e, by omega⟩
theorem sumTo_more {f : Nat → Nat} {n : Nat} : ∀ d : Nat, (∀ i, n ≤ i → i < n + d → f i = 0) → sumTo f (n + d) = sumTo f n
  | 0, _ => rfl
  | d + 1, h => by
    rw [show n + (d + 1) = n + d + 1 by omega, sumTo, h (n + d) (by omega) (by omega), sumTo_more d fun i h1 h2 => h i h1 (by omega)]
    rfl
/-- All shares are met. -/
theorem got_all (hR : Right n m l) {x : Pl} (hx : x ∈ l) : (sumTo (fun t => cntI (busyT (tabsOf n m l) (t : Int)) x.u) n : Int) = if x.ps.length = 0 then 0 else x.s := by
  rw [sumTo_congr (g := nAny x.ps) fun t ht => busy_cnt hR hx ht]
  by_cases e : x.ps.length = 0
  · rw [if_pos e, sumTo_zero fun i _ => by rw [List.eq_nil_of_length_eq_zero e]; rfl]
    rfl
  · rw [if_neg e]
    have hs := (hR.place x hx).split (by intro h; rw [h] at e; exact e rfl)
    have h64 := hR.f64
    rw [← hs.all, show 64 = n + (64 - n) by omega, sumTo_more (64 - n) fun i h1 h2 => ?_]
    have := (hs.kept i (by omega)).2
    omega
theorem cnt_rowN (F : Nat → Int) : ∀ n : Nat, cntI (rowN n F) 0 = sumTo (fun t => if F t = 0 then 1 else 0) n
  | 0 => rfl
  | n + 1 => by
    rw [sumTo, ← cnt_rowN F n]
    unfold cntI rowN
    rw [List.range_succ, List.map_append, List.countP_append, List.map_singleton, List.countP_singleton]
    congr 1
    by_cases h : F n = 0 <;> simp [h]
end
end Go.Proofs.YtpfpojehcjmfnaaGreat

/-
  A plan with no tick free: each unit gets just its share, out of windows or of what its core's other ticks are.
  Conditions: none.
-/
set_option linter.unusedVariables false
namespace Go.Proofs.YtpfpojehcjmfnaaGreat

def sumC (f : Int → Nat) : List Int → Nat
  | [] => 0
  | c :: r => f c + sumC f r
theorem sumC_congr {f g : Int → Nat} : ∀ {cs : List Int}, (∀ c ∈ cs, f c = g c) → sumC f cs = sumC g cs
  | [], _ => rfl
  | c :: r, h => by rw [sumC, sumC, h c (by simp), sumC_congr fun d hd => h d (by simp [hd])]
theorem sumC_add (f g : Int → Nat) : ∀ cs : List Int, sumC (fun c => f c + g c) cs = sumC f cs + sumC g cs
  | [] => rfl
  | c :: r => by rw [sumC, sumC, sumC, sumC_add f g r]; omega
theorem sumC_zero {f : Int → Nat} {cs : List Int} (h : ∀ c ∈ cs, f c = 0) : sumC f cs = 0 := by
  induction cs with
  | nil => rfl
  | cons c r ih => rw [sumC, h c (by simp), ih fun d hd => h d (by simp [hd])]
theorem sumC_one {a : Int} {v : Nat} {cs : List Int} (hn : cs.Nodup) (h : a ∈ cs) : sumC (fun c => if c = a then v else 0) cs = v := by
  induction cs with
  | nil => cases h
  | cons x r ih =>
    rw [List.nodup_cons] at hn
    rw [sumC]
    by_cases e : x = a
    · subst e
      have h0 : sumC (fun c => if c = x then v else 0) r = 0 := sumC_zero fun c hc => if_neg fun e : c = x => hn.1 (e ▸ hc)
      rw [if_pos rfl, h0]
      rfl
    · rw [if_neg e, ih hn.2 (by simpa [Ne.symm e] using h), Nat.zero_add]
theorem sumC_swap (f : Int → Nat → Nat) (n : Nat) : ∀ cs : List Int, sumC (fun c => sumTo (f c) n) cs = sumTo (fun t => sumC (fun c => f c t) cs) n
  | [] => (sumTo_zero fun _ _ => rfl).symm
  | c :: r => by
    rw [sumC, sumC_swap f n r, ← sumTo_add]
    rfl
theorem sumC_count (p : Int → Bool) : ∀ cs : List Int, sumC (fun c => if p c = true then 1 else 0) cs = cs.countP p
  | [] => rfl
  | c :: r => by
    rw [sumC, sumC_count p r, List.countP_cons]
    omega
theorem sumC_append (f : Int → Nat) : ∀ a b : List Int, sumC f (a ++ b) = sumC f a + sumC f b
  | [], b => by rw [List.nil_append, sumC]; omega
  | c :: r, b => by rw [List.cons_append, sumC, sumC, sumC_append f r b]; omega
theorem sumC_take (f : Int → Nat) {cs : List Int} {k : Nat} {c : Int} (h : cs[k]? = some c) : sumC f (cs.take (k + 1)) = sumC f (cs.take k) + f c := by
  rw [List.take_add_one, h, Option.toList_some, sumC_append, sumC, sumC]
  rfl

def givS (u : Int) : List Sp → Nat
  | [] => 0
  | w :: r => (if w.1 = u then w.2.toNat else 0) + givS u r
theorem giv_perm (u : Int) {a b : List Sp} (h : a.Perm b) : givS u a = givS u b := by
  induction h with
  | nil => rfl
  | cons x _ ih => rw [givS, givS, ih]
  | swap x y l => rw [givS, givS, givS, givS]; omega
  | trans _ _ h1 h2 => exact h1.trans h2
theorem giv_zero {u : Int} : ∀ {ws : List Sp}, (∀ w ∈ ws, w.1 ≠ u) → givS u ws = 0
  | [], _ => rfl
  | w :: r, h => by rw [givS, if_neg (h w (by simp)), giv_zero fun x hx => h x (by simp [hx])]
theorem giv_wholes {c : Int} : ∀ {l : List Pl} {x : Pl}, x ∈ l → (∀ y ∈ l, y.u = x.u → y = x) → l.Nodup → givS x.u (wholesT l c) = if wholeB c x = true then x.s.toNat else 0
  | [], x, h, _, _ => by cases h
  | y :: r, x, h, hu, hn => by
    rw [List.nodup_cons] at hn
    unfold wholesT
    rw [List.filter_cons]
    by_cases e : y = x
    · subst e
      have h0 : givS y.u ((r.filter (wholeB c)).map fun x => (x.u, x.s)) = 0 := giv_zero fun w hw => by
        obtain ⟨z, hz, rfl⟩ := List.mem_map.1 hw
        have hzr := (List.mem_filter.1 hz).1
        intro e
        have := hu z (by simp [hzr]) e
        exact hn.1 (this ▸ hzr)
      cases hb : wholeB c y
      · rw [if_neg (by simp), if_neg (by simp)]
        exact h0
      · rw [if_pos rfl, if_pos rfl, List.map_cons, givS, if_pos rfl, h0]
        rfl
    · have hx : x ∈ r := by
        rcases List.mem_cons.1 h with h | h
        · exact absurd h.symm e
        · exact h
      have ih := giv_wholes (c := c) hx (fun z hz => hu z (by simp [hz])) hn.2
      unfold wholesT at ih
      cases hb : wholeB c y
      · rw [if_neg (by simp)]
        exact ih
      · rw [if_pos rfl, List.map_cons, givS, if_neg (fun e' => e (hu y (by simp) e')), ih, Nat.zero_add]

section
variable {n m : Nat} {l : List Pl}
theorem nodup_of (hR : Right n m l) : l.Nodup := by
  rw [List.Nodup, List.pairwise_iff_getElem]
  intro i j hi hj hij e
  have := hR.rises (j - i - 1) i l[i] l[j] (List.getElem?_eq_getElem hi) (by rw [show i + (j - i - 1) + 1 = j by omega]; exact List.getElem?_eq_getElem hj)
  rw [e] at this
  omega
theorem core_full (hR : Right n m l) (h0 : freeT n m l 16 = 0) {q : Nat} (hq : q < 16) (hb : m.testBit q = true) : loadN l (q : Int) = n := by
  have h1 := rm_free hR 16 (Nat.le_refl _)
  rw [h0] at h1
  have h2 := sumTo_mono (rmN n m l) (a := q + 1) (b := 16) (by omega)
  have h3 : sumTo (rmN n m l) (q + 1) = sumTo (rmN n m l) q + rmN n m l q := rfl
  have h4 := rm_yes (f := n) (l := l) hq hb
  have h5 := hR.load q hq hb
  omega
theorem own_zero (hR : Right n m l) {q : Nat} (hq : q < 16) {t : Nat} (ht : t < 64) : ownF l (q : Int) t = 0 ↔ nOn (pcsOf l) (q : Int) t = 0 := by
  constructor
  · intro h
    apply Classical.byContradiction
    intro hne
    obtain ⟨y, hy, hyc, hyt⟩ := nOn_pos.1 (Nat.pos_of_ne_zero hne)
    unfold pcsOf at hy
    obtain ⟨x, hx, hyx⟩ := List.mem_flatMap.1 hy
    have hx0 : 0 < nOn x.ps (q : Int) t := nOn_pos.2 ⟨y, hyx, hyc, hyt⟩
    have := own_is (hR.apart q hq t ht) hx hx0
    have := unit_pos hR hx
    omega
  · intro h
    apply Classical.byContradiction
    intro hne
    obtain ⟨y, hy, _, hy0⟩ := own_someT hne
    have := nOn_mem hy (q : Int) t
    omega
/-- The ticks that are nobody's are just as many as the shares of those who are whole there. -/
theorem loose_just (hR : Right n m l) (h0 : freeT n m l 16 = 0) {c : Int} (hc : c ∈ ticksI m 16) : (cntI (rowN n (ownF l c)) 0 : Int) = sumS (wholesT l c) := by
  obtain ⟨q, rfl, hq, hb⟩ := core_of hc
  have hl := core_full hR h0 hq hb
  have h64 := hR.f64
  unfold loadN at hl
  rw [cnt_rowN]
  have h1 : sumTo (fun t => if ownF l (q : Int) t = 0 then 1 else 0) n + sumTo (fun t => ((winN (pcsOf l) (q : Int)).testBit t).toNat) n = n := by
    rw [← sumTo_add]
    have := sumTo_congr (f := fun t => (if ownF l (q : Int) t = 0 then 1 else 0) + ((winN (pcsOf l) (q : Int)).testBit t).toNat) (g := fun _ => 1) (k := n) fun t ht => by
      have ht : t < 64 := by omega
      rw [winN_bit ht]
      by_cases e : ownF l (q : Int) t = 0
      · rw [if_pos e, (own_zero hR hq ht).1 e]; rfl
      · have := fun h => e ((own_zero hR hq ht).2 h)
        rw [if_neg e, decide_eq_true (Nat.pos_of_ne_zero this)]; rfl
    rw [this, sumTo_const]
    omega
  have h2 : cnt (winN (pcsOf l) (q : Int)) = sumTo (fun t => ((winN (pcsOf l) (q : Int)).testBit t).toNat) n := by
    rw [cnt_sum, show 64 = n + (64 - n) by omega]
    refine sumTo_more (64 - n) fun t h1 h2 => ?_
    have ht : t < 64 := by omega
    rw [winN_bit ht]
    have : nOn (pcsOf l) (q : Int) t = 0 := by
      apply Classical.byContradiction
      intro hne
      obtain ⟨y, hy, hyc, hyt⟩ := nOn_pos.1 (Nat.pos_of_ne_zero hne)
      unfold pcsOf at hy
      obtain ⟨x, hx, hyx⟩ := List.mem_flatMap.1 hy
      have hs := (hR.place x hx).split (by intro e; rw [e] at hyx; cases hyx)
      have := (hs.kept t ht).2 (nAny_pos.2 ⟨y, hyx, hyt⟩)
      omega
    rw [this]
    rfl
  omega

/-- What a core gives a unit. -/
def coreG (n : Nat) (l : List Pl) (u c : Int) : Nat := cntI (rowN n (ownF l c)) u + givS u (wholesT l c)
theorem cnt_rowU (F : Nat → Int) (u : Int) : ∀ n : Nat, cntI (rowN n F) u = sumTo (fun t => if F t = u then 1 else 0) n
  | 0 => rfl
  | n + 1 => by
    rw [sumTo, ← cnt_rowU F u n]
    unfold cntI rowN
    rw [List.range_succ, List.map_append, List.countP_append, List.map_singleton, List.countP_singleton]
    congr 1
    by_cases h : F n = u <;> simp [h]
theorem windows_all (hR : Right n m l) {x : Pl} (hx : x ∈ l) : (sumC (fun c => cntI (rowN n (ownF l c)) x.u) (ticksI m 16) : Int) = if x.ps.length = 0 then 0 else x.s := by
  rw [← got_all hR hx, sumC_congr fun c _ => cnt_rowU (ownF l c) x.u n, sumC_swap]
  congr 1
  refine sumTo_congr fun t ht => ?_
  rw [busy_of ht]
  unfold cntI
  rw [List.countP_filter, List.countP_map]
  have hu := unit_pos hR hx
  rw [sumC_congr (g := fun c => if decide (ownF l c t = x.u) = true then 1 else 0) fun c _ => by simp, sumC_count]
  refine List.countP_congr fun c _ => ?_
  simp only [Function.comp, Bool.and_eq_true, decide_eq_true_eq, Bool.not_eq_true', decide_eq_false_iff_not]
  constructor
  · intro e
    exact ⟨e, by omega⟩
  · exact fun h => h.1
theorem wholes_all (hR : Right n m l) {x : Pl} (hx : x ∈ l) : sumC (fun c => givS x.u (wholesT l c)) (ticksI m 16) = if x.ps.length = 0 then x.s.toNat else 0 := by
  rw [sumC_congr fun c _ => giv_wholes (c := c) hx (fun y hy e => hR.unit_eq hy hx e) (nodup_of hR)]
  by_cases e : x.ps.length = 0
  · rw [if_pos e, sumC_congr (g := fun c => if c = x.c then x.s.toNat else 0) fun c _ => ?_]
    · exact sumC_one (cores_nodup m) (core_in ((hR.place x hx).whole (List.eq_nil_of_length_eq_zero e)))
    · unfold wholeB
      rw [decide_eq_true e]
      by_cases h : c = x.c
      · rw [if_pos h, if_pos (by simp [h])]
      · rw [if_neg h, if_neg (by simp [Ne.symm h])]
  · rw [if_neg e]
    refine sumC_zero fun c _ => ?_
    unfold wholeB
    rw [decide_eq_false e]
    rfl
/-- All cores together give each unit its share. -/
theorem got_every (hR : Right n m l) {x : Pl} (hx : x ∈ l) : (sumC (coreG n l x.u) (ticksI m 16) : Int) = x.s := by
  have h1 := windows_all hR hx
  have h2 := wholes_all hR hx
  have h3 : sumC (coreG n l x.u) (ticksI m 16) = sumC (fun c => cntI (rowN n (ownF l c)) x.u) (ticksI m 16) + sumC (fun c => givS x.u (wholesT l c)) (ticksI m 16) := sumC_add _ _ _
  have h4 := (hR.place x hx).s1
  by_cases e : x.ps.length = 0
  · rw [if_pos e] at h1 h2
    omega
  · rw [if_neg e] at h1 h2
    omega
end
end Go.Proofs.YtpfpojehcjmfnaaGreat

/-
  What a core's frame gives each unit: ticks in windows, and the picks of a local for all others.
  Conditions: none.
-/
set_option linter.unusedVariables false
namespace Go.Proofs.YtpfpojehcjmfnaaGreat

/-- What the members got of a unit's. -/
def gotM (u : Int) : List Lm → Nat
  | [] => 0
  | m :: r => (if (m.u : Int) = u then m.g else 0) + gotM u r
theorem gotM_new {u : Int} : ∀ {l : List Lm}, (∀ m ∈ l, m.g = 0) → gotM u l = 0
  | [], _ => rfl
  | m :: r, h => by
    rw [gotM, gotM_new fun x hx => h x (by simp [hx]), h m (by simp)]
    split <;> rfl
theorem gotM_more (u : Int) : ∀ {l : List Lm} {k : Nat} {x : Lm}, l[k]? = some x → gotM u (l.set k (more x)) = gotM u l + if (x.u : Int) = u then 1 else 0
  | [], k, x, h => by simp at h
  | m :: r, 0, x, h => by
    simp at h
    subst h
    rw [List.set_cons_zero, gotM, gotM]
    show (if (m.u : Int) = u then m.g + 1 else 0) + _ = _
    split <;> omega
  | m :: r, k + 1, x, h => by
    rw [List.set_cons_succ, gotM, gotM, gotM_more u (by simpa using h)]
    omega
theorem gotM_end {u : Int} : ∀ {l : List Lm}, (∀ m ∈ l, m.g = m.s) → gotM u l = givS u (wantsM l)
  | [], _ => rfl
  | m :: r, h => by
    rw [gotM, gotM_end fun x hx => h x (by simp [hx]), h m (by simp)]
    rfl
theorem new_perm {ps : List Sp} (h : ∀ p ∈ ps, 0 ≤ p.1 ∧ 0 ≤ p.2) : (wantsM (newT ps)).Perm ps := by
  have h1 : (wantsM (newT ps)).Perm (wantsM (ps.map mkL)) := (newT_perm ps).map _
  have h2 : wantsM (ps.map mkL) = ps := by
    unfold wantsM
    rw [List.map_map]
    conv => rhs; rw [← List.map_id ps]
    refine List.map_congr_left fun p hp => ?_
    obtain ⟨a, b⟩ := p
    have := h _ hp
    show (((a.toNat : Nat) : Int), ((b.toNat : Nat) : Int)) = (a, b)
    rw [Int.toNat_of_nonneg this.1, Int.toNat_of_nonneg this.2]
  rwa [h2] at h1
theorem new_zero (ps : List Sp) : ∀ m ∈ newT ps, m.g = 0 := fun m hm => by
  obtain ⟨p, _, rfl⟩ := List.mem_map.1 ((newT_perm ps).mem_iff.1 hm)
  rfl
theorem wants_pickM (off : Nat → Bool) {l : List Lm} (hp : ∀ m ∈ l, 0 < m.s) : wantsM (pickT off l) = wantsM l := by
  unfold pickT
  cases hn : nextT off l with
  | none => rfl
  | some b =>
    have hb := (next_some hp hn).at_
    show ((l.set b.1 (more b.2)).map fun m => ((m.u : Int), (m.s : Int))) = _
    rw [List.map_set]
    refine List.ext_getElem? fun i => ?_
    rw [List.getElem?_set]
    split
    · rename_i e
      subst e
      have : (wantsM l)[b.1]? = some ((b.2.u : Int), (b.2.s : Int)) := by unfold wantsM; rw [List.getElem?_map, hb]; rfl
      have hl := (List.getElem?_eq_some_iff.1 hb).1
      rw [if_pos (by rw [List.length_map]; exact hl), this]
      rfl
    · rfl

/-- So many ticks are nobody's. -/
def looseT (F : Nat → Int) (k : Nat) : Nat := sumTo (fun t => if F t = 0 then 1 else 0) k
structure FrameIn (F : Nat → Int) (ws : List Sp) (k : Nat) (L : List Lm) : Prop where
  even : Even (looseT F k) L
  ok : OkL (looseT F k) L
  wants : wantsM L = wantsM (newT ws)
/-- What it gave so far. -/
def gaveT (F : Nat → Int) (k : Nat) (L : List Lm) (u : Int) : Nat := cntI (rowN k F) u + gotM u L
theorem row_snoc (F : Nat → Int) (k : Nat) (u : Int) : cntI (rowN (k + 1) F) u = cntI (rowN k F) u + if F k = u then 1 else 0 := by
  rw [cnt_rowU, cnt_rowU]
  rfl
theorem FrameIn.new {F : Nat → Int} {f : Int} {ws : List Sp} (hf : f ≤ 64) (h : RightM f ws) (hs : sumP ws ≤ f) : FrameIn F ws 0 (newT ws) := by
  refine ⟨⟨?_, fun m hm => by rw [new_zero ws m hm]; exact Nat.zero_le _⟩, newT_ok hf h hs, rfl⟩
  have : ∀ {l : List Lm}, (∀ m ∈ l, m.g = 0) → sumG l = 0 := fun {l} => by
    induction l with
    | nil => exact fun _ => rfl
    | cons m r ih =>
      intro h
      rw [sumG, h m (by simp), ih fun x hx => h x (by simp [hx])]
  exact this (new_zero ws)
theorem gave_new {F : Nat → Int} (ws : List Sp) (u : Int) : gaveT F 0 (newT ws) u = 0 := by
  unfold gaveT
  rw [gotM_new (new_zero ws)]
  rfl
/-- A tick that is somebody's. -/
theorem FrameIn.own {F : Nat → Int} {ws : List Sp} {k : Nat} {L : List Lm} (h : FrameIn F ws k L) (hk : F k ≠ 0) : FrameIn F ws (k + 1) L ∧ ∀ u, gaveT F (k + 1) L u = gaveT F k L u + if F k = u then 1 else 0 := by
  have e : looseT F (k + 1) = looseT F k := by
    show looseT F k + (if F k = 0 then 1 else 0) = _
    rw [if_neg hk]
    rfl
  refine ⟨⟨by rw [e]; exact h.even, by rw [e]; exact h.ok, h.wants⟩, fun u => ?_⟩
  unfold gaveT
  rw [row_snoc]
  omega
/-- A tick that is nobody's: there is somebody to be picked. -/
theorem FrameIn.pick {F : Nat → Int} {ws : List Sp} {k : Nat} {L : List Lm} (h : FrameIn F ws k L) (hk : F k = 0) (hs : looseT F (k + 1) ≤ sumM (newT ws)) :
    ∃ i x, nextT (fun _ => false) L = some (i, x) ∧ FrameIn F ws (k + 1) (pickT (fun _ => false) L) ∧ ∀ u, u ≠ 0 → gaveT F (k + 1) (pickT (fun _ => false) L) u = gaveT F k L u + if (x.u : Int) = u then 1 else 0 := by
  have e : looseT F (k + 1) = looseT F k + 1 := by
    show looseT F k + (if F k = 0 then 1 else 0) = _
    rw [if_pos hk]
  have hsum : sumM L = sumM (newT ws) := by
    have : ∀ {a b : List Lm}, wantsM a = wantsM b → sumM a = sumM b := fun {a} => by
      induction a with
      | nil =>
        intro b h
        cases b with
        | nil => rfl
        | cons y b => cases h
      | cons x a ih =>
        intro b h
        cases b with
        | nil => cases h
        | cons y b =>
          unfold wantsM at h
          rw [List.map_cons, List.map_cons, List.cons.injEq, Prod.mk.injEq] at h
          have := ih (b := b) h.2
          show x.s + sumM a = y.s + sumM b
          omega
    exact this h.wants
  obtain ⟨i, x, hn, hE⟩ := even_pick h.ok.share h.even (by omega)
  refine ⟨i, x, hn, ⟨by rw [e]; exact hE, by rw [e]; exact h.ok.pick _, by rw [wants_pickM _ h.ok.share]; exact h.wants⟩, fun u hu => ?_⟩
  unfold gaveT
  rw [row_snoc, if_neg (by omega)]
  have : gotM u (pickT (fun _ => false) L) = gotM u L + if (x.u : Int) = u then 1 else 0 := by
    unfold pickT
    rw [hn]
    exact gotM_more u (next_some h.ok.share hn).at_
  omega
/-- The whole frame. -/
theorem FrameIn.all {n m : Nat} {l : List Pl} (hR : Right n m l) (h0 : freeT n m l 16 = 0) {c : Int} (hc : c ∈ ticksI m 16) {L : List Lm} (h : FrameIn (ownF l c) (wholesT l c) n L) (hw : RightM n (wholesT l c)) (u : Int) : gaveT (ownF l c) n L u = coreG n l u c := by
  have h1 := loose_just hR h0 hc
  rw [cnt_rowN] at h1
  have h2 := newT_sum hw
  have hpos : ∀ p ∈ wholesT l c, 0 ≤ p.1 ∧ 0 ≤ p.2 := fun p hp => by
    have := hw.unit p hp
    have := hw.share p hp
    omega
  have h3 : sumP (wholesT l c) = sumS (wholesT l c) := by
    have : ∀ ps : List Sp, sumP ps = sumS ps := fun ps => by
      induction ps with
      | nil => rfl
      | cons p r ih => rw [sumP, sumS, ih]
    exact this _
  have hsum : sumM L ≤ looseT (ownF l c) n := by
    have : sumM L = sumM (newT (wholesT l c)) := by
      have : ∀ {a b : List Lm}, wantsM a = wantsM b → sumM a = sumM b := fun {a} => by
        induction a with
        | nil =>
          intro b h
          cases b with
          | nil => rfl
          | cons y b => cases h
        | cons x a ih =>
          intro b h
          cases b with
          | nil => cases h
          | cons y b =>
            unfold wantsM at h
            rw [List.map_cons, List.map_cons, List.cons.injEq, Prod.mk.injEq] at h
            have := ih (b := b) h.2
            show x.s + sumM a = y.s + sumM b
            omega
      exact this h.wants
    unfold looseT
    omega
  unfold gaveT coreG
  rw [gotM_end (even_end h.even hsum), h.wants, giv_perm u (new_perm hpos)]
theorem loose_le {F : Nat → Int} {k n : Nat} (h : k ≤ n) : looseT F k ≤ looseT F n := sumTo_mono _ h
theorem wholes_right {n m : Nat} {l : List Pl} (hR : Right n m l) (c : Int) : RightM n (wholesT l c) := by
  have hmem : ∀ p ∈ wholesT l c, ∃ x ∈ l, (x.u, x.s) = p := fun p hp => by
    obtain ⟨x, hx, e⟩ := List.mem_map.1 hp
    exact ⟨x, (List.mem_filter.1 hx).1, e⟩
  refine ⟨fun p hp => ?_, fun p hp => ?_, ?_⟩
  · obtain ⟨x, hx, rfl⟩ := hmem p hp
    exact unit_pos hR hx
  · obtain ⟨x, hx, rfl⟩ := hmem p hp
    exact ⟨(hR.place x hx).s1, (hR.place x hx).s2⟩
  · have h1 : (wantsT l).Pairwise fun x y => x.1 ≠ y.1 := hR.rising.imp fun h => by omega
    refine h1.sublist ?_
    unfold wholesT wantsT
    exact List.Sublist.map _ List.filter_sublist
end Go.Proofs.YtpfpojehcjmfnaaGreat

/-
  A map of the call's own that counts ticks, and what lies beside it.
  Conditions: the numbers are small.
-/
set_option linter.unusedVariables false
namespace Go.Proofs.YtpfpojehcjmfnaaGreat
open Go.RowKit Go.Maps

theorem keyedInt : Keyed Tryz.prog 3 := int_keyed Tryz.underlying3
theorem zeroInt (w : World) : (zeroValue 3).run Tryz.prog w = .ok (.int .i64 0) w := by kernel_rfl
theorem key_int (q : Int) (h0 : -9223372036854775808 ≤ q) (h1 : q ≤ 9223372036854775807) : keyOf Tryz.prog 3 (.int .i64 q) = some (.int .i64 q) := keyOf_int_mk Tryz.underlying3 (WalkArith.wf_i64 ⟨h0, h1⟩)
theorem lit_ne {a b : Int} (h : a ≠ b) : (Lit.int .i64 a) ≠ (Lit.int .i64 b) := by intro e; injection e with _ e; exact h e
theorem keyLit_int (q : Int) : WideAt.IsKeyLit (.int .i64 q) := by first | exact trivial | simp [WideAt.IsKeyLit] | exact ⟨_, _, rfl⟩
theorem own_keepM {w w' : World} {R : Value → Option (DataW Unit × List MemPlace)} {b n : Nat} {D : DataW Unit} (h : w.ownsMap Tryz.prog 3 R b n D) (e : w'.heap[b]? = w.heap[b]?) : w'.ownsMap Tryz.prog 3 R b n D := by
  obtain ⟨es, clock, hb, r⟩ := h
  exact ⟨es, clock, e.trans hb, r⟩
/-- Block mb is a map of at most cnt entries that has f of every number. -/
def GotAt (w : World) (mb cnt : Nat) (f : Int → Nat) (D : DataW Unit) : Prop :=
  w.ownsMap Tryz.prog 3 (plainElem Tryz.prog 3) mb cnt D ∧ ∀ q : Int, D.atKey (.int .i64 q) (.lit (.int .i64 0)) = .lit (.int .i64 (f q))
theorem GotAt.keep {w w' : World} {mb cnt : Nat} {f : Int → Nat} {D : DataW Unit} (h : GotAt w mb cnt f D) (e : w'.heap[mb]? = w.heap[mb]?) : GotAt w' mb cnt f D := ⟨own_keepM h.1 e, h.2⟩
theorem got_new (w : World) : GotAt (w.alloc (.map #[] 0)) w.heap.size 0 (fun _ => 0) (.map []) := ⟨World.ownsMap_made w _ _ _, fun q => rfl⟩
theorem GotAt.look {w : World} {mb cnt : Nat} {f : Int → Nat} {D : DataW Unit} (h : GotAt w mb cnt f D) (q : Int) (h0 : 0 ≤ q) (h1 : q ≤ 5000) : (Instr.lookup 60 (.map (some mb)) (.int .i64 q) false).run Tryz.prog w = .ok (.int .i64 (f q)) w := by
  obtain ⟨c, hrun, hat, _⟩ := h.1.lookup_int keyedInt Tryz.underlying60 Tryz.underlying3 (zeroInt w) (key_int q (by omega) (by omega))
  rw [h.2 q] at hat
  have hc : c = (f q : Int) := by
    have e := DataW.lit.inj hat
    exact (Lit.int.inj e).2.symm
  rw [hc] at hrun
  exact hrun
def bump (f : Int → Nat) (q : Int) : Int → Nat := fun x => if x = q then f q + 1 else f x
theorem GotAt.bump {w w' : World} {mb cnt : Nat} {f : Int → Nat} {D : DataW Unit} {q : Int} (h : GotAt w mb cnt f D) (ho : w'.ownsMap Tryz.prog 3 (plainElem Tryz.prog 3) mb (cnt + 1) (D.put (.int .i64 q) (.lit (.int .i64 ((f q : Int) + 1))))) :
    GotAt w' mb (cnt + 1) (Go.Proofs.YtpfpojehcjmfnaaGreat.bump f q) (D.put (.int .i64 q) (.lit (.int .i64 ((f q : Int) + 1)))) := by
  refine ⟨ho, fun x => ?_⟩
  unfold Go.Proofs.YtpfpojehcjmfnaaGreat.bump
  by_cases e : x = q
  · subst e
    rw [if_pos rfl, atKey_put_same h.1.isMap (keyLit_int _)]
    rfl
  · rw [if_neg e, atKey_put_other (lit_ne e)]
    exact h.2 x
theorem wf_small {n : Int} (h0 : 0 ≤ n) (h1 : n ≤ 100000) : (Lit.int .i64 n).wf = true := WalkArith.wf_i64 ⟨by omega, by omega⟩

theorem bump_le {f : Int → Nat} {t : Nat} (h : ∀ x, f x ≤ t) (q : Int) : ∀ x, bump f q x ≤ t + 1 := fun x => by
  unfold bump
  split
  · have := h q; omega
  · have := h x; omega

structure MapSt (mb : Nat) (w6 wr : World) (cn : Nat) (f : Int → Nat) (D : DataW Unit) : Prop where
  got : GotAt wr mb cn f D
  below : Below mb w6 wr
  le : ∀ x, f x ≤ cn
theorem MapSt.lt {mb : Nat} {w6 wr : World} {cn : Nat} {f : Int → Nat} {D : DataW Unit} (h : MapSt mb w6 wr cn f D) : mb < wr.heap.size := h.got.1.lt
theorem MapSt.keep {mb : Nat} {w6 wr W : World} {cn : Nat} {f : Int → Nat} {D : DataW Unit} (h : MapSt mb w6 wr cn f D) (hb : Below (mb + 1) wr W) : MapSt mb w6 W cn f D :=
  ⟨h.got.keep (hb.block mb (Nat.lt_succ_self mb)), h.below.trans (hb.mono (Nat.le_succ mb)), h.le⟩
theorem MapSt.more {mb : Nat} {w6 wr W : World} {cn : Nat} {f : Int → Nat} {D : DataW Unit} (h : MapSt mb w6 wr cn f D) (hb : Below wr.heap.size wr W) : MapSt mb w6 W cn f D := h.keep (hb.mono h.lt)
theorem MapSt.bump {mb : Nat} {w6 wr W : World} {cn : Nat} {f : Int → Nat} {D : DataW Unit} {q : Int} (h : MapSt mb w6 wr cn f D) (ho : W.ownsMap Tryz.prog 3 (plainElem Tryz.prog 3) mb (cn + 1) (D.put (.int .i64 q) (.lit (.int .i64 ((f q : Int) + 1))))) (hg : wr.grownBy W (some mb)) :
    MapSt mb w6 W (cn + 1) (Go.Proofs.YtpfpojehcjmfnaaGreat.bump f q) (D.put (.int .i64 q) (.lit (.int .i64 ((f q : Int) + 1)))) :=
  ⟨h.got.bump ho, h.below.trans ⟨hg.os, hg.tape, hg.output, hg.size, fun k hk => hg.block k (Nat.lt_trans hk h.lt) (fun e => by have := Option.some.inj e; omega)⟩, bump_le h.le q⟩
theorem held_map {mb rb : Nat} {W W' : World} {L : List Lm} (h : Held (mb + 1) W rb L) (hg : W.grownBy W' (some mb)) : Held (mb + 1) W' rb L := by
  obtain ⟨mv, a, b⟩ := h
  exact ⟨mv, a.keep fun k hk => hg.block k (a.foot hk) (fun e => by have := Option.some.inj e; have := b k hk; omega), b⟩
theorem Held.weak {a b : Nat} {W : World} {rb : Nat} {l : List Lm} (h : Held a W rb l) (hb : b ≤ a) : Held b W rb l := by
  obtain ⟨mv, h1, h2⟩ := h
  exact ⟨mv, h1, fun k hk => Nat.le_trans hb (h2 k hk)⟩

structure OutSt (n m : Nat) (Lq : List Pl) (mb : Nat) (w6 wr : World) (k cn : Nat) (f : Int → Nat) (D : DataW Unit) : Prop where
  map : MapSt mb w6 wr cn f D
  cnt : cn ≤ k * 64
  got : ∀ u : Int, u ≠ 0 → f u = sumC (coreG n Lq u) ((ticksI m 16).take k)
structure InSt (n m : Nat) (Lq : List Pl) (mb rb : Nat) (w6 wr : World) (k : Nat) (c : Int) (t cn : Nat) (f : Int → Nat) (D : DataW Unit) (L : List Lm) : Prop where
  map : MapSt mb w6 wr cn f D
  cnt : cn ≤ k * 64 + t
  held : Held (mb + 1) wr rb L
  frame : FrameIn (ownF Lq c) (wholesT Lq c) t L
  got : ∀ u : Int, u ≠ 0 → f u = sumC (coreG n Lq u) ((ticksI m 16).take k) + gaveT (ownF Lq c) t L u
theorem sumP_S : ∀ ps : List Sp, sumP ps = sumS ps
  | [] => rfl
  | p :: r => by rw [sumP, sumS, sumP_S r]
/-- What a core's wholes are. -/
theorem wholes_of {n m : Nat} {l : List Pl} (hR : Right n m l) (h0 : freeT n m l 16 = 0) {c : Int} (hc : c ∈ ticksI m 16) :
    newE n (wholesT l c) = 0 ∧ looseT (ownF l c) n = sumM (newT (wholesT l c)) ∧ sumP (wholesT l c) ≤ n := by
  have hw := wholes_right hR c
  have h1 := loose_just hR h0 hc
  have h2 := newT_sum hw
  have h3 := sumP_S (wholesT l c)
  have h4 : cntI (rowN n (ownF l c)) 0 ≤ n := by
    have := cntI_le (rowN n (ownF l c)) 0
    rwa [rowN_length] at this
  have h5 : cntI (rowN n (ownF l c)) 0 = looseT (ownF l c) n := cnt_rowN _ n
  have hle : sumP (wholesT l c) ≤ n := by omega
  have hW : WOk (n : Int) (wantsT l) := (WOk.of_chk hR.chk).2
  have hs : (wholesT l c).Sublist (wantsT l) := by
    unfold wholesT wantsT
    exact List.Sublist.map _ List.filter_sublist
  have hck : chkT n (wholesT l c) = 0 := (hW.sub hs).chk hR.f2 hR.f64
  exact ⟨newE_ok hck (by omega), by omega, hle⟩
theorem OutSt.into {n m : Nat} {Lq : List Pl} {mb rb : Nat} {w6 wr W : World} {k cn : Nat} {f : Int → Nat} {D : DataW Unit} (h : OutSt n m Lq mb w6 wr k cn f D) (hR : Right n m Lq) (h0 : freeT n m Lq 16 = 0) {c : Int} (hc : c ∈ ticksI m 16)
    (hh : Held wr.heap.size W rb (newT (wholesT Lq c))) (hb : Below wr.heap.size wr W) : InSt n m Lq mb rb w6 W k c 0 cn f D (newT (wholesT Lq c)) :=
  ⟨h.map.more hb, h.cnt, hh.weak h.map.lt, FrameIn.new (by have := hR.f64; exact this) (wholes_right hR c) (wholes_of hR h0 hc).2.2, fun u hu => by rw [h.got u hu, gave_new, Nat.add_zero]⟩
theorem InSt.out {n m : Nat} {Lq : List Pl} {mb rb : Nat} {w6 wr : World} {k cn : Nat} {c : Int} {f : Int → Nat} {D : DataW Unit} {L : List Lm} (h : InSt n m Lq mb rb w6 wr k c n cn f D L) (hR : Right n m Lq) (h0 : freeT n m Lq 16 = 0) (hc : (ticksI m 16)[k]? = some c) :
    OutSt n m Lq mb w6 wr (k + 1) cn f D :=
  ⟨h.map, by have := h.cnt; have := hR.f64; omega, fun u hu => by rw [h.got u hu, sumC_take _ hc, h.frame.all hR h0 (List.mem_of_getElem? hc) (wholes_right hR c)]⟩
theorem InSt.keep {n m : Nat} {Lq : List Pl} {mb rb : Nat} {w6 wr W : World} {k t cn : Nat} {c : Int} {f : Int → Nat} {D : DataW Unit} {L : List Lm} (h : InSt n m Lq mb rb w6 wr k c t cn f D L) (hb : Below wr.heap.size wr W) : InSt n m Lq mb rb w6 W k c t cn f D L :=
  ⟨h.map.more hb, h.cnt, h.held.below hb, h.frame, h.got⟩
/-- A tick that is somebody's. -/
theorem InSt.own {n m : Nat} {Lq : List Pl} {mb rb : Nat} {w6 wr W : World} {k t cn : Nat} {c : Int} {f : Int → Nat} {D : DataW Unit} {L : List Lm} (h : InSt n m Lq mb rb w6 wr k c t cn f D L) {u : Int} (hu : ownF Lq c t = u) (hu0 : u ≠ 0)
    (ho : W.ownsMap Tryz.prog 3 (plainElem Tryz.prog 3) mb (cn + 1) (D.put (.int .i64 u) (.lit (.int .i64 ((f u : Int) + 1))))) (hg : wr.grownBy W (some mb)) :
    InSt n m Lq mb rb w6 W k c (t + 1) (cn + 1) (bump f u) (D.put (.int .i64 u) (.lit (.int .i64 ((f u : Int) + 1)))) L := by
  obtain ⟨hF, hgv⟩ := h.frame.own (by rw [hu]; exact hu0)
  refine ⟨h.map.bump ho hg, by have := h.cnt; omega, held_map h.held hg, hF, fun v hv => ?_⟩
  have h1 := h.got v hv
  have h2 := hgv v
  rw [hu] at h2
  unfold bump
  by_cases e : v = u
  · subst e
    rw [if_pos rfl] at h2 ⊢
    omega
  · rw [if_neg e]
    rw [if_neg (Ne.symm e)] at h2
    omega
/-- A tick that the local gives. -/
theorem InSt.pick {n m : Nat} {Lq : List Pl} {mb rb : Nat} {w6 wr w8 W : World} {k t cn : Nat} {c : Int} {f : Int → Nat} {D : DataW Unit} {L L' : List Lm} (h : InSt n m Lq mb rb w6 wr k c t cn f D L) {x : Lm}
    (hF : FrameIn (ownF Lq c) (wholesT Lq c) (t + 1) L') (hgv : ∀ u : Int, u ≠ 0 → gaveT (ownF Lq c) (t + 1) L' u = gaveT (ownF Lq c) t L u + if (x.u : Int) = u then 1 else 0)
    (hm : MapSt mb w6 w8 cn f D) (hh : Held (mb + 1) w8 rb L')
    (ho : W.ownsMap Tryz.prog 3 (plainElem Tryz.prog 3) mb (cn + 1) (D.put (.int .i64 (x.u : Int)) (.lit (.int .i64 ((f (x.u : Int) : Int) + 1))))) (hg : w8.grownBy W (some mb)) :
    InSt n m Lq mb rb w6 W k c (t + 1) (cn + 1) (bump f (x.u : Int)) (D.put (.int .i64 (x.u : Int)) (.lit (.int .i64 ((f (x.u : Int) : Int) + 1)))) L' := by
  refine ⟨hm.bump ho hg, by have := h.cnt; omega, held_map hh hg, hF, fun v hv => ?_⟩
  have h1 := h.got v hv
  have h2 := hgv v hv
  unfold bump
  by_cases e : v = (x.u : Int)
  · subst e
    rw [if_pos rfl] at h2 ⊢
    omega
  · rw [if_neg e]
    rw [if_neg (Ne.symm e)] at h2
    omega
end Go.Proofs.YtpfpojehcjmfnaaGreat
