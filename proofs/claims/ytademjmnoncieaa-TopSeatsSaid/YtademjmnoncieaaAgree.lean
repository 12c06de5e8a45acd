/-
  A heap and the document's list say the same; and go on saying it.
  Conditions: none.
-/
import Derived.Test.YtademjmnoncieaaRefMin
set_option linter.unusedVariables false
namespace Go.Proofs.Ytademjmnoncieaa
open Go.RowKit

structure Agree (s : Hs) (its : List It) : Prop where
  nd : (its.map fun it => it.1).Nodup
  mem : ∀ x nu de, (x, nu, de) ∈ its ↔ (x < s.n ∧ 0 < s.den x ∧ s.num x = nu ∧ s.den x = de)
  len : its.length = s.m

theorem agree_empty (n : Nat) : Agree (emptyS n) [] := ⟨by simp, fun x nu de => by simp [emptyS], rfl⟩

theorem mem_dropI {its : List It} {id : Int} {it : It} : it ∈ dropI its id ↔ it ∈ its ∧ (it.1 : Int) ≠ id := by
  unfold dropI; rw [List.mem_filter]; simp
theorem dropI_none : ∀ {its : List It} {id : Int}, (∀ it ∈ its, (it.1 : Int) ≠ id) → dropI its id = its := by
  intro its id h
  unfold dropI
  rw [List.filter_eq_self]
  intro it hit
  simpa using h it hit
theorem dropI_one : ∀ {its : List It} {id : Int}, (its.map fun it => it.1).Nodup → (∃ it ∈ its, (it.1 : Int) = id) → (dropI its id).length + 1 = its.length
  | [], id, _, h => by obtain ⟨it, h, _⟩ := h; simp at h
  | i :: r, id, hn, h => by
    simp only [List.map_cons, List.nodup_cons] at hn
    by_cases he : (i.1 : Int) = id
    · have : dropI (i :: r) id = r := by
        have e : dropI (i :: r) id = dropI r id := by unfold dropI; rw [List.filter_cons]; simp [he]
        rw [e]
        refine dropI_none fun it hit heq => hn.1 ?_
        have : it.1 = i.1 := by omega
        rw [← this]
        exact List.mem_map.2 ⟨it, hit, rfl⟩
      rw [this]; rfl
    · have e : dropI (i :: r) id = i :: dropI r id := by unfold dropI; rw [List.filter_cons]; simp [he]
      rw [e]
      have := dropI_one (its := r) (id := id) hn.2 (by
        obtain ⟨it, hit, hid⟩ := h
        rcases List.mem_cons.1 hit with rfl | hit
        · exact absurd hid he
        · exact ⟨it, hit, hid⟩)
      simp only [List.length_cons]
      omega
theorem dropI_nodup {its : List It} {id : Int} (h : (its.map fun it => it.1).Nodup) : ((dropI its id).map fun it => it.1).Nodup := by
  unfold dropI
  exact List.Nodup.sublist (List.Sublist.map _ List.filter_sublist) h

theorem Agree.there {s : Hs} {its : List It} (a : Agree s its) {x : Nat} : (∃ it ∈ its, (it.1 : Int) = x) ↔ (x < s.n ∧ 0 < s.den x) := by
  constructor
  · rintro ⟨⟨y, nu, de⟩, h, e⟩
    have e' : y = x := by simp only at e; omega
    subst e'
    obtain ⟨h1, h2, _⟩ := (a.mem _ _ _).1 h
    exact ⟨h1, h2⟩
  · intro ⟨h1, h2⟩
    exact ⟨(x, s.num x, s.den x), (a.mem _ _ _).2 ⟨h1, h2, rfl, rfl⟩, rfl⟩

theorem Agree.put {s s' : Hs} {its : List It} (a : Agree s its) {x nu de : Nat} (c : PutC s x nu de s') (hx : x < s.n) (hd : 0 < de) : Agree s' (dropI its x ++ [(x, nu, de)]) := by
  obtain ⟨c1, c2, c3, c4⟩ := c
  refine ⟨?_, fun y mu df => ?_, ?_⟩
  · rw [List.map_append, List.nodup_append]
    refine ⟨dropI_nodup a.nd, by simp, fun p hp q hq => ?_⟩
    obtain ⟨it, hit, rfl⟩ := List.mem_map.1 hp
    simp at hq
    subst hq
    have := (mem_dropI.1 hit).2
    omega
  · rw [List.mem_append, mem_dropI, a.mem, c1, c3, c4]
    simp only [List.mem_singleton, Prod.mk.injEq]
    by_cases e : y = x
    · subst e
      rw [upd_same, upd_same]
      constructor
      · rintro (⟨_, h⟩ | ⟨_, rfl, rfl⟩)
        · exact absurd rfl h
        · exact ⟨hx, hd, rfl, rfl⟩
      · rintro ⟨_, _, rfl, rfl⟩
        exact .inr ⟨rfl, rfl, rfl⟩
    · rw [upd_other e, upd_other e]
      constructor
      · rintro (⟨h, _⟩ | ⟨h, _⟩)
        · exact h
        · exact absurd h e
      · intro h
        exact .inl ⟨h, by omega⟩
  · rw [List.length_append, c2]
    by_cases hh : 0 < s.den x
    · rw [if_pos hh, ← a.len]
      exact dropI_one a.nd (a.there.2 ⟨hx, hh⟩)
    · rw [if_neg hh, ← a.len, dropI_none (fun it hit e => hh (a.there.1 ⟨it, hit, e⟩).2)]
      rfl

theorem Agree.cut {s s' : Hs} {its : List It} (a : Agree s its) {x : Nat} (c : cutC s x s') (hx : x < s.n) (hd : 0 < s.den x) : Agree s' (dropI its x) := by
  obtain ⟨c1, c2, c3, c4⟩ := c
  have key : ∀ y mu df, (y, mu, df) ∈ dropI its x ↔ (y < s'.n ∧ 0 < s'.den y ∧ s'.num y = mu ∧ s'.den y = df) := fun y mu df => by
    rw [mem_dropI, a.mem, c1, c3, c4]
    by_cases e : y = x
    · subst e
      rw [upd_same, upd_same]
      constructor
      · rintro ⟨_, h⟩; exact absurd rfl h
      · rintro ⟨_, h, _⟩; omega
    · rw [upd_other e, upd_other e]
      constructor
      · rintro ⟨h, _⟩; exact h
      · intro h; exact ⟨h, by simp only; omega⟩
  exact ⟨dropI_nodup a.nd, key, by
    have := dropI_one a.nd (a.there.2 ⟨hx, hd⟩)
    have := a.len
    omega⟩

theorem hasKey_some {s : Hs} {id : Int} (h : hasKey s id = true) : ∃ x : Nat, id = x ∧ x < s.n ∧ 0 < s.den x := by
  obtain ⟨k0, k1, k2⟩ := of_decide_eq_true h
  exact ⟨id.toNat, by omega, k1, k2⟩

theorem Agree.rem {s s' : Hs} {its : List It} (a : Agree s its) {id : Int} (c : RemC s id s') : Agree s' (dropI its id) ∧ decide ((dropI its id).length < its.length) = hasKey s id := by
  unfold RemC at c
  by_cases hk : hasKey s id = true
  · obtain ⟨x, rfl, hx, hd⟩ := hasKey_some hk
    rw [if_pos hk, Int.toNat_natCast] at c
    refine ⟨a.cut c hx hd, ?_⟩
    rw [hk]
    have := dropI_one a.nd (a.there.2 ⟨hx, hd⟩)
    exact decide_eq_true (by omega)
  · rw [if_neg hk] at c
    subst c
    have hno : ∀ it ∈ its, (it.1 : Int) ≠ id := fun it hit e => hk (by
      obtain ⟨h1, h2⟩ := a.there.1 ⟨it, hit, rfl⟩
      rw [← e, hasKey_nat]
      exact decide_eq_true ⟨h1, h2⟩)
    rw [dropI_none hno]
    refine ⟨a, ?_⟩
    rw [show hasKey s' id = false by simpa using hk]
    exact decide_eq_false (Nat.lt_irrefl _)

theorem Agree.ahead {s : Hs} {its : List It} (a : Agree s its) {i j : It} (hi : i ∈ its) (hj : j ∈ its) : aheadI i j = true ↔ s.lt i.1 j.1 := by
  obtain ⟨x, nu, de⟩ := i
  obtain ⟨y, mu, df⟩ := j
  obtain ⟨_, _, rfl, rfl⟩ := (a.mem _ _ _).1 hi
  obtain ⟨_, _, rfl, rfl⟩ := (a.mem _ _ _).1 hj
  exact aheadB_iff s x y
theorem Agree.pos {s : Hs} {its : List It} (a : Agree s its) {i : It} (hi : i ∈ its) : i.1 < s.n ∧ 0 < s.den i.1 := by
  obtain ⟨x, nu, de⟩ := i
  obtain ⟨h1, h2, _⟩ := (a.mem _ _ _).1 hi
  exact ⟨h1, h2⟩

theorem best_fold {s : Hs} {its : List It} (a : Agree s its) : ∀ (r : List It) (b : It), b ∈ its → (∀ it ∈ r, it ∈ its) → r.foldl bestI b ∈ its ∧ ¬ s.lt b.1 (r.foldl bestI b).1 ∧ ∀ it ∈ r, ¬ s.lt it.1 (r.foldl bestI b).1
  | [], b, hb, _ => ⟨hb, s.o.irr _, fun it h => by simp at h⟩
  | i :: r, b, hb, hr => by
    have hi := hr i (by simp)
    have hr' : ∀ it ∈ r, it ∈ its := fun it h => hr it (by simp [h])
    simp only [List.foldl_cons]
    by_cases h : aheadI i b = true
    · have e : bestI b i = i := by unfold bestI; rw [if_pos h]
      rw [e]
      obtain ⟨g1, g2, g3⟩ := best_fold a r i hi hr'
      have hl := (a.ahead hi hb).1 h
      refine ⟨g1, ?_, fun it hit => ?_⟩
      · exact s.o.le (a.pos g1).2 (a.pos hi).2 (a.pos hb).2 g2 (s.o.asym (a.pos hi).2 (a.pos hb).2 hl)
      · rcases List.mem_cons.1 hit with rfl | hit
        · exact g2
        · exact g3 it hit
    · have e : bestI b i = b := by unfold bestI; rw [if_neg h]
      rw [e]
      obtain ⟨g1, g2, g3⟩ := best_fold a r b hb hr'
      have hl : ¬ s.lt i.1 b.1 := fun hh => h ((a.ahead hi hb).2 hh)
      refine ⟨g1, g2, fun it hit => ?_⟩
      rcases List.mem_cons.1 hit with rfl | hit
      · exact s.o.le (a.pos g1).2 (a.pos hb).2 (a.pos hi).2 g2 hl
      · exact g3 it hit

theorem Agree.min {s : Hs} {its : List It} (a : Agree s its) (k : Okay s) : minV s = pairV (minP its) ∧ (s.m = 0 → minP its = (0, false)) ∧ (s.m ≠ 0 → minP its = (((s.L 0 : Nat) : Int), true)) := by
  by_cases h0 : s.m = 0
  · have e : its = [] := List.eq_nil_of_length_eq_zero (by rw [a.len, h0])
    subst e
    refine ⟨?_, fun _ => rfl, fun h => absurd h0 h⟩
    unfold minV
    rw [if_pos h0]
    rfl
  · cases hits : its with
    | nil => rw [hits] at a; have := a.len; simp at this; omega
    | cons i r =>
      rw [← hits]
      have hi : i ∈ its := by rw [hits]; simp
      obtain ⟨g1, g2, g3⟩ := best_fold a r i hi (fun it h => by rw [hits]; simp [h])
      have hall : ∀ it ∈ its, ¬ s.lt it.1 (r.foldl bestI i).1 := fun it h => by
        rw [hits] at h
        rcases List.mem_cons.1 h with rfl | h
        · exact g2
        · exact g3 it h
      have hmin : minP its = ((((r.foldl bestI i).1 : Nat) : Int), true) := by unfold minP; rw [hits]; rfl
      have hlo := k.c.lo 0 (by omega)
      have hon := k.c.on 0 (by omega)
      have hL : s.L 0 = (r.foldl bestI i).1 := by
        apply Classical.byContradiction
        intro hne
        obtain ⟨p1, p2⟩ := a.pos g1
        have q1 : ¬ s.lt (s.L 0) (r.foldl bestI i).1 := hall (s.L 0, s.num (s.L 0), s.den (s.L 0)) ((a.mem _ _ _).2 ⟨hlo, hon, rfl, rfl⟩)
        have q2 := (k.first p1 p2).2
        rcases s.o.tot _ _ hon p2 hne with h | h
        · exact q1 h
        · exact q2 h
      refine ⟨?_, fun h => absurd h h0, fun _ => by rw [hmin, hL]⟩
      unfold minV
      rw [if_neg h0, hmin, hL]
      rfl

theorem Agree.pop {s s' : Hs} {its : List It} (a : Agree s its) (k : Okay s) (c : PopC s s') : Agree s' (if (minP its).2 = true then dropI its (minP its).1 else its) := by
  obtain ⟨_, m1, m2⟩ := a.min k
  unfold PopC at c
  by_cases h0 : s.m = 0
  · rw [if_pos h0] at c
    subst c
    rw [m1 h0]
    exact a
  · rw [if_neg h0] at c
    rw [m2 h0]
    exact a.cut c (k.c.lo 0 (by omega)) (k.c.on 0 (by omega))

theorem Agree.key {s : Hs} {its : List It} (a : Agree s its) (id : Int) : keyV s id = tripV (keyP its id) := by
  unfold keyV keyP
  cases hf : keyF its id with
  | none =>
    have hno : ¬ hasKey s id = true := fun hk => by
      obtain ⟨x, rfl, hx, hd⟩ := hasKey_some hk
      obtain ⟨it, hit, e⟩ := a.there.2 ⟨hx, hd⟩
      unfold keyF at hf
      rw [List.find?_eq_none] at hf
      exact hf it hit (by simpa using e)
    rw [if_neg hno]
    rfl
  | some it =>
    unfold keyF at hf
    have h1 := List.mem_of_find?_eq_some hf
    have h2 := List.find?_some hf
    obtain ⟨x, nu, de⟩ := it
    obtain ⟨q1, q2, rfl, rfl⟩ := (a.mem _ _ _).1 h1
    have h2 : (x : Int) = id := by simpa using h2
    subst h2
    have hk : hasKey s (x : Int) = true := by rw [hasKey_nat]; exact decide_eq_true ⟨q1, q2⟩
    rw [if_pos hk, Int.toNat_natCast]
    rfl

theorem Agree.good {W : World} {hb kb : Nat} {lv : Value} {s : Hs} {its : List It} (a : Agree s its) (h : HeapAt W hb kb lv s) : GoodI its := fun it hit => by
  obtain ⟨x, nu, de⟩ := it
  obtain ⟨q1, q2, rfl, rfl⟩ := (a.mem _ _ _).1 hit
  have := h.n1
  exact ⟨h.w1 x q1, h.w2 x q1, by simp only; omega⟩
end Go.Proofs.Ytademjmnoncieaa
