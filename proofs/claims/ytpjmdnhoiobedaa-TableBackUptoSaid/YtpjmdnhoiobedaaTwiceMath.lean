/-
  What tables of a right plan are together: nobody twice at a tick, all shares met, loose ticks enough.
  Conditions: none.
-/
import Derived.Test.YtpjmdnhoiobedaaLawAt
set_option linter.unusedVariables false
namespace Go.Proofs.Ytpjmdnhoiobedaa

theorem own_ex {c : Int} {t : Nat} : ∀ (l : List Pl) (a : Int), (l.foldl (ownS c t) a = a ∧ ∀ x ∈ l, nOn x.ps c t = 0) ∨ ∃ y ∈ l, l.foldl (ownS c t) a = y.u ∧ 0 < nOn y.ps c t
  | [], a => .inl ⟨rfl, fun x hx => by cases hx⟩
  | x :: l, a => by
    rw [List.foldl_cons]
    rcases own_ex (c := c) (t := t) l (ownS c t a x) with ⟨h1, h2⟩ | ⟨y, hy, h1, h2⟩
    · by_cases hx : 0 < nOn x.ps c t
      · refine .inr ⟨x, by simp, ?_, hx⟩
        rw [h1]
        exact if_pos hx
      · refine .inl ⟨?_, fun y hy => ?_⟩
        · rw [h1]
          exact if_neg hx
        · rcases List.mem_cons.1 hy with rfl | hy
          · omega
          · exact h2 y hy
    · exact .inr ⟨y, by simp [hy], h1, h2⟩
theorem nOn_mem {l : List Pl} {x : Pl} (h : x ∈ l) (c : Int) (t : Nat) : nOn x.ps c t ≤ nOn (pcsOf l) c t := by
  obtain ⟨a, b, rfl⟩ := List.append_of_mem h
  unfold pcsOf
  rw [List.flatMap_append, List.flatMap_cons, nOn_append, nOn_append]
  omega
theorem one_only {l : List Pl} {x y : Pl} {c : Int} {t : Nat} (h : nOn (pcsOf l) c t ≤ 1) (hx : x ∈ l) (hy : y ∈ l) (hx0 : 0 < nOn x.ps c t) (hy0 : 0 < nOn y.ps c t) : y = x := by
  obtain ⟨a, b, rfl⟩ := List.append_of_mem hx
  have e : nOn (pcsOf (a ++ x :: b)) c t = nOn (pcsOf a) c t + nOn x.ps c t + nOn (pcsOf b) c t := by
    unfold pcsOf
    rw [List.flatMap_append, List.flatMap_cons, nOn_append, nOn_append]
    omega
  rcases List.mem_append.1 hy with hy | hy
  · have := nOn_mem hy c t; omega
  · rcases List.mem_cons.1 hy with rfl | hy
    · rfl
    · have := nOn_mem hy c t; omega
theorem own_is {l : List Pl} {x : Pl} {c : Int} {t : Nat} (h : nOn (pcsOf l) c t ≤ 1) (hx : x ∈ l) (hx0 : 0 < nOn x.ps c t) : ownF l c t = x.u := by
  rcases own_ex (c := c) (t := t) l 0 with ⟨_, h2⟩ | ⟨y, hy, h1, h2⟩
  · have := h2 x hx; omega
  · rw [one_only h hx hy hx0 h2] at h1
    exact h1
theorem own_some {l : List Pl} {c : Int} {t : Nat} (h : ownF l c t ≠ 0) : ∃ y ∈ l, ownF l c t = y.u ∧ 0 < nOn y.ps c t := by
  rcases own_ex (c := c) (t := t) l 0 with ⟨h1, _⟩ | h
  · exact absurd h1 h
  · exact h
theorem Right.unit_eq {f : Int} {m : Nat} {l : List Pl} (h : Right f m l) {x y : Pl} (hx : x ∈ l) (hy : y ∈ l) (e : x.u = y.u) : x = y := by
  obtain ⟨i, hi⟩ := List.getElem?_of_mem hx
  obtain ⟨j, hj⟩ := List.getElem?_of_mem hy
  rcases Nat.lt_trichotomy i j with hlt | heq | hlt
  · have := h.rise hlt hi hj; omega
  · subst heq
    rw [hi] at hj
    exact Option.some.inj hj
  · have := h.rise hlt hj hi; omega
theorem unit_pos {f : Int} {m : Nat} {l : List Pl} (h : Right f m l) {x : Pl} (hx : x ∈ l) : 1 ≤ x.u ∧ x.u ≤ 1040 := by
  have := (h.place x hx).unit
  simp [isU] at this
  omega
theorem core_of {m : Nat} {c : Int} (h : c ∈ ticksI m 16) : ∃ q : Nat, c = (q : Int) ∧ q < 16 ∧ m.testBit q = true := by
  unfold ticksI at h
  obtain ⟨q, hq, rfl⟩ := List.mem_map.1 h
  unfold ticksT at hq
  obtain ⟨h1, h2⟩ := List.mem_filter.1 hq
  exact ⟨q, rfl, List.mem_range.1 h1, h2⟩
theorem core_in {m : Nat} {c : Int} (h : hasC m c = true) : c ∈ ticksI m 16 := by
  have hr := hasC_range h
  obtain ⟨q, rfl⟩ : ∃ q : Nat, c = (q : Int) := ⟨c.toNat, by omega⟩
  rw [hasC_nat (by omega)] at h
  unfold ticksI
  refine List.mem_map.2 ⟨q, ?_, rfl⟩
  unfold ticksT
  exact List.mem_filter.2 ⟨List.mem_range.2 (by omega), h⟩
theorem cores_nodup (m : Nat) : (ticksI m 16).Nodup := by
  unfold ticksI
  have h : (ticksT m 16).Nodup := (List.nodup_range).filter _
  rw [List.Nodup, List.pairwise_map]
  exact h.imp fun hne e => hne (by omega)
theorem count_one {l : List Int} {a : Int} (hn : l.Nodup) (h : a ∈ l) : l.countP (fun c => decide (c = a)) = 1 := by
  induction l with
  | nil => cases h
  | cons x r ih =>
    rw [List.nodup_cons] at hn
    rw [List.countP_cons]
    by_cases e : x = a
    · subst e
      have : r.countP (fun c => decide (c = x)) = 0 := by
        rw [List.countP_eq_zero]
        intro y hy
        simp
        intro e
        exact hn.1 (e ▸ hy)
      rw [this]
      simp
    · rw [ih hn.2 (by simpa [Ne.symm e] using h)]
      simp [e]
theorem nOn_two {c c' : Int} (h : c ≠ c') (t : Nat) : ∀ q : List Pc, nOn q c t + nOn q c' t ≤ nAny q t
  | [] => by simp [nOn, nAny]
  | y :: q => by
    have ih := nOn_two h t q
    unfold nOn nAny at *
    rw [List.countP_cons, List.countP_cons, List.countP_cons]
    unfold onB at *
    by_cases h1 : y.c = c <;> by_cases h2 : y.c = c' <;> cases hb : y.t.testBit t <;> simp [h1, h2, h, Ne.symm h] <;> omega
/-- On how many cores pieces run at a tick. -/
theorem cores_any_cnt {m : Nat} {q : List Pc} {t : Nat} (h1 : nAny q t ≤ 1) (hc : ∀ y ∈ q, hasC m y.c = true) : (ticksI m 16).countP (fun c => decide (0 < nOn q c t)) = nAny q t := by
  rcases Nat.eq_zero_or_pos (nAny q t) with h0 | h0
  · rw [h0, List.countP_eq_zero]
    intro c _
    have := nOn_le_any q c t
    simp
    omega
  · obtain ⟨y, hy, hb⟩ := nAny_pos.1 h0
    have e : (fun c => decide (0 < nOn q c t)) = fun c => decide (c = y.c) := by
      funext c
      rw [decide_eq_decide]
      constructor
      · intro h
        apply Classical.byContradiction
        intro hne
        have h2 : 0 < nOn q y.c t := nOn_pos.2 ⟨y, hy, rfl, hb⟩
        have := nOn_two hne t q
        omega
      · rintro rfl
        exact nOn_pos.2 ⟨y, hy, rfl, hb⟩
    rw [e, count_one (cores_nodup m) (core_in (hc y hy))]
    omega

section
variable {n m : Nat} {l : List Pl}
theorem ownerT_of (c : Int) {t : Nat} (h : t < n) : ownerT (tabOf n l c) (t : Int) = ownF l c t := by
  unfold ownerT
  rw [if_neg (by omega), Int.toNat_natCast]
  show ((rowN n (ownF l c))[t]?).getD 0 = _
  rw [rowN_get _ h]
  rfl
theorem busy_of {t : Nat} (h : t < n) : busyT (tabsOf n m l) (t : Int) = ((ticksI m 16).map fun c => ownF l c t).filter fun u => !decide (u = 0) := by
  unfold busyT tabsOf
  rw [List.map_map]
  congr 1
  exact List.map_congr_left fun c _ => ownerT_of c h
theorem busy_cnt (hR : Right n m l) {x : Pl} (hx : x ∈ l) {t : Nat} (h : t < n) : cntI (busyT (tabsOf n m l) (t : Int)) x.u = nAny x.ps t := by
  have hu := unit_pos hR hx
  have h64 : t < 64 := by have := hR.f64; omega
  have hp := hR.place x hx
  have h1 : nAny x.ps t ≤ 1 := by
    by_cases e : x.ps = []
    · rw [e]; exact Nat.zero_le _
    · exact ((hp.split e).kept t h64).1
  rw [← cores_any_cnt h1 (fun y hy => hp.has y hy), busy_of h]
  unfold cntI
  rw [List.countP_filter, List.countP_map]
  refine List.countP_congr fun c hc => ?_
  obtain ⟨q, rfl, hq, _⟩ := core_of hc
  simp only [Function.comp, Bool.and_eq_true, decide_eq_true_eq, Bool.not_eq_true', decide_eq_false_iff_not]
  constructor
  · rintro ⟨e, h0⟩
    obtain ⟨y, hy, hyu, hy0⟩ := own_some h0
    rw [e] at hyu
    rw [hR.unit_eq hx hy hyu]
    exact hy0
  · intro h0
    have e := own_is (hR.apart q hq t h64) hx h0
    exact ⟨e, by omega⟩
/-- Whom a tick has: units, each once. -/
theorem busy_once (hR : Right n m l) {t : Nat} (h : t < n) {i : Nat} {u : Int} (hi : (busyT (tabsOf n m l) (t : Int))[i]? = some u) : u ∉ (busyT (tabsOf n m l) (t : Int)).take i ∧ 1 ≤ u ∧ u ≤ 1040 := by
  have hm := List.mem_of_getElem? hi
  rw [busy_of h] at hm
  obtain ⟨h1, h2⟩ := List.mem_filter.1 hm
  obtain ⟨c, hc, rfl⟩ := List.mem_map.1 h1
  have h0 : ownF l c t ≠ 0 := by simpa using h2
  obtain ⟨x, hx, hxu, _⟩ := own_some h0
  have hu := unit_pos hR hx
  refine ⟨fun hin => ?_, by omega, by omega⟩
  have hcnt := busy_cnt hR hx h
  have h64 : t < 64 := by have := hR.f64; omega
  have h3 : nAny x.ps t ≤ 1 := by
    by_cases e : x.ps = []
    · rw [e]; exact Nat.zero_le _
    · exact (((hR.place x hx).split e).kept t h64).1
  rw [hxu] at hi hin
  have h4 := cnt_snoc hi x.u
  rw [decide_eq_true rfl] at h4
  have h5 : 0 < cntI ((busyT (tabsOf n m l) (t : Int)).take i) x.u := List.countP_pos_iff.2 ⟨x.u, hin, by simp⟩
  have h6 : cntI ((busyT (tabsOf n m l) (t : Int)).take (i + 1)) x.u ≤ cntI (busyT (tabsOf n m l) (t : Int)) x.u := (List.take_sublist _ _).countP_le
  simp at h4
  omega
theorem sumTo_more {f : Nat → Nat} {n : Nat} : ∀ d : Nat, (∀ i, n ≤ i → i < n + d → f i = 0) → sumTo f (n + d) = sumTo f n
  | 0, _ => rfl
  | d + 1, h => by
    rw [show n + (d + 1) = n + d + 1 by omega, sumTo, h (n + d) (by omega) (by omega), sumTo_more d fun i h1 h2 => h i h1 (by omega)]
    rfl
/-- All shares are met. -/
theorem got_all (hR : Right n m l) {x : Pl} (hx : x ∈ l) : (sumTo (fun t => cntI (busyT (tabsOf n m l) (t : Int)) x.u) n : Int) = if x.ps.length = 0 then 0 else x.s := by
  rw [sumTo_congr (g := nAny x.ps) fun t ht => busy_cnt hR hx ht]
  by_cases e : x.ps.length = 0
  · rw [if_pos e, sumTo_zero fun i _ => by rw [List.eq_nil_of_length_eq_zero e]; rfl]
    rfl
  · rw [if_neg e]
    have hs := (hR.place x hx).split (by intro h; rw [h] at e; exact e rfl)
    have h64 := hR.f64
    rw [← hs.all, show 64 = n + (64 - n) by omega, sumTo_more (64 - n) fun i h1 h2 => ?_]
    have := (hs.kept i (by omega)).2
    omega
theorem cnt_rowN (F : Nat → Int) : ∀ n : Nat, cntI (rowN n F) 0 = sumTo (fun t => if F t = 0 then 1 else 0) n
  | 0 => rfl
  | n + 1 => by
    rw [sumTo, ← cnt_rowN F n]
    unfold cntI rowN
    rw [List.range_succ, List.map_append, List.countP_append, List.map_singleton, List.countP_singleton]
    congr 1
    by_cases h : F n = 0 <;> simp [h]
theorem sumTo_mono {f : Nat → Nat} {n k : Nat} (h : n ≤ k) : sumTo f n ≤ sumTo f k := by
  obtain ⟨d, rfl⟩ : ∃ d, k = n + d := ⟨k - n, by omega⟩
  clear h
  induction d with
  | zero => exact Nat.le_refl _
  | succ d ih => rw [show n + (d + 1) = n + d + 1 by omega, sumTo]; omega
/-- Loose ticks are enough. -/
theorem loose_enough (hR : Right n m l) {x : Tb} (hx : x ∈ tabsOf n m l) : sumS x.ws ≤ (cntI x.ts 0 : Int) := by
  unfold tabsOf at hx
  obtain ⟨c, hc, rfl⟩ := List.mem_map.1 hx
  obtain ⟨q, rfl, hq, hb⟩ := core_of hc
  have hl := hR.load q hq hb
  have h64 := hR.f64
  show sumS (wholesT l (q : Int)) ≤ (cntI (rowN n (ownF l (q : Int))) 0 : Int)
  unfold loadN at hl
  rw [cnt_rowN]
  have h1 : n ≤ sumTo (fun t => if ownF l (q : Int) t = 0 then 1 else 0) n + sumTo (fun t => ((winN (pcsOf l) (q : Int)).testBit t).toNat) n := by
    rw [← sumTo_add]
    have := sumTo_le (f := fun _ => 1) (g := fun t => (if ownF l (q : Int) t = 0 then 1 else 0) + ((winN (pcsOf l) (q : Int)).testBit t).toNat) (k := n) fun t ht => by
      by_cases e : ownF l (q : Int) t = 0
      · rw [if_pos e]; omega
      · obtain ⟨y, hy, _, hy0⟩ := own_some e
        have h2 := nOn_mem hy (q : Int) t
        rw [if_neg e, winN_bit (by omega), decide_eq_true (by omega)]
        exact Nat.le_refl _
    rw [sumTo_const] at this
    omega
  have h2 := sumTo_mono (f := fun t => ((winN (pcsOf l) (q : Int)).testBit t).toNat) (n := n) (k := 64) (by omega)
  rw [← cnt_sum] at h2
  omega
theorem tab_ws {x : Tb} (hR : Right n m l) (hx : x ∈ tabsOf n m l) : x.ws.length ≤ l.length ∧ ∀ p ∈ x.ws, 0 ≤ p.2 ∧ p.2 ≤ 64 := by
  unfold tabsOf at hx
  obtain ⟨c, _, rfl⟩ := List.mem_map.1 hx
  refine ⟨wholes_le l c, shares_wholes (fun y hy => ?_) c⟩
  have := hR.place y hy
  have h1 := this.s1
  have h2 := this.s2
  have := hR.f64
  omega
end
end Go.Proofs.Ytpjmdnhoiobedaa
