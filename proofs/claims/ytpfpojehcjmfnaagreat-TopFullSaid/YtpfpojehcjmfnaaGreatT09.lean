/-
  rightCores, rightSplit and rightPlaces of the program.
  Conditions: the slices read as pieces, as places; the numbers are of their kinds.
-/
import Derived.Test.YtpfpojehcjmfnaaGreatT08
import Derived.Test.YtpfpojehcjmfnaaGreatT07
import Derived.Test.YtpfpojehcjmfnaaGreatT03

/-
  Why wants don't go along the chain: the units of a plan and the wants behind them, checked together; the sum of wants.
  Conditions: none.
-/
set_option linter.unusedVariables false
namespace Go.Proofs.YtpfpojehcjmfnaaGreat

theorem chkL_append {f : Int} : ∀ (a b r : List Sp), chkL f b (a ++ r) = if chkL f b a = 0 then chkL f (b ++ a) r else chkL f b a
  | [], b, r => by rw [List.nil_append, List.append_nil, chkL, if_pos rfl]
  | y :: a, b, r => by
    rw [List.cons_append, chkL, chkL]
    by_cases h : chkE f b y = 0
    · rw [if_pos h, if_pos h, chkL_append a (b ++ [y]) r, List.append_assoc]
      rfl
    · rw [if_neg h, if_neg h, if_neg h]
/-- Wants that are right by themselves, behind others: all that can be wrong is a unit that is there twice. -/
theorem chkL_behind {f : Int} (b : List Sp) : ∀ (r a : List Sp), chkL f a r = 0 → chkL f (b ++ a) r = if (r.any fun w => b.any fun s => decide (s.1 = w.1)) = true then 11 else 0
  | [], a, _ => by rw [chkL, List.any_nil, if_neg (by decide)]
  | y :: r, a, h => by
    rw [chkL] at h
    by_cases he : chkE f a y = 0
    · rw [if_pos he] at h
      obtain ⟨h1, h2, h3, h4⟩ := chkE_zero.1 he
      rw [List.any_cons, chkL]
      cases hb : b.any fun s => decide (s.1 = y.1) with
      | true =>
        have e : chkE f (b ++ a) y = 11 := chkE_two h1 (by omega) (by omega) (by rw [List.any_append, hb]; rfl)
        rw [e, if_neg (by decide), Bool.true_or, if_pos rfl]
      | false =>
        have e : chkE f (b ++ a) y = 0 := chkE_zero.2 ⟨h1, h2, h3, by rw [List.any_append, hb, h4]; rfl⟩
        rw [e, if_pos rfl, Bool.false_or, List.append_assoc]
        exact chkL_behind b r (a ++ [y]) h
    · rw [if_neg he] at h
      exact absurd h he
theorem any_found (l : List Pl) (u : Int) : ((wantsT l).any fun s => decide (s.1 = u)) = (findU l u).isSome := by
  unfold findU wantsT
  rw [List.any_map]
  show (l.any fun x => decide (x.u = u)) = _
  cases h : (l.find? fun y => decide (y.u = u)) with
  | none =>
    rw [List.find?_eq_none] at h
    rw [List.any_eq_false.2 fun x hx => h x hx]
    rfl
  | some x =>
    have h1 := List.mem_of_find?_eq_some h
    have h2 := List.find?_some h
    rw [List.any_eq_true.2 ⟨x, h1, h2⟩]
    rfl
theorem Right.chk {f : Int} {m : Nat} {l : List Pl} (h : Right f m l) : chkT f (wantsT l) = 0 :=
  (units_iff.2 ⟨⟨h.f2, h.f64⟩, fun x hx => ⟨(h.place x hx).unit, (h.place x hx).s1, (h.place x hx).s2⟩, h.asc⟩).chk
theorem chk_both {f : Int} {m : Nat} {l : List Pl} {ws : List Sp} (h : Right f m l) (hw : chkT f ws = 0) : chkT f (wantsT l ++ ws) = if anyB l ws = true then 11 else 0 := by
  have hf : ¬ (f < 2 ∨ 64 < f) := by have := h.f2; have := h.f64; omega
  have h1 := h.chk
  unfold chkT at h1 hw ⊢
  rw [if_neg hf] at h1 hw ⊢
  rw [chkL_append, if_pos h1, List.nil_append]
  have h2 := chkL_behind (wantsT l) ws [] hw
  rw [List.append_nil] at h2
  rw [h2]
  unfold anyB
  simp only [any_found]
theorem tot_small : ∀ (ws : List Sp) (t : Int), (∀ w ∈ ws, 0 ≤ w.2 ∧ w.2 ≤ 64) → 0 ≤ t → t + 64 * (ws.length : Int) ≤ 1000000 → totL t ws = some (t + sumS ws)
  | [], t, _, _, _ => by rw [totL, sumS, Int.add_zero]
  | y :: r, t, h, h0, h1 => by
    have hy := h y (by simp)
    rw [List.length_cons] at h1
    have ha : addO t y.2 = some (t + y.2) := if_pos ⟨by omega, by omega⟩
    rw [totL_some ha, tot_small r (t + y.2) (fun w hw => h w (by simp [hw])) (by omega) (by omega), sumS, Int.add_assoc]
theorem tot_chk {f : Int} {ws : List Sp} (h : chkT f ws = 0) : totT ws = some (sumS ws) := by
  obtain ⟨hf, hall, _⟩ := WOk.of_chk h
  have h2 := few_wants h
  have := tot_small ws 0 (fun w hw => by have := hall w hw; omega) (by omega) (by omega)
  rwa [Int.zero_add] at this
end Go.Proofs.YtpfpojehcjmfnaaGreat

/-
  A whole plan over lists of wants: who is left over by first fit is split along the chain.
  Conditions: none.
-/
set_option linter.unusedVariables false
namespace Go.Proofs.YtpfpojehcjmfnaaGreat

theorem putPl_perm (d : List Pl) (x : Pl) (k : Nat) : (putPl d x k).Perm (x :: d) := by
  unfold putPl
  rw [List.append_assoc]
  refine List.perm_middle.trans (List.Perm.cons x ?_)
  show (d.take k ++ d.drop k).Perm d
  rw [List.take_append_drop]
theorem addU_wants {d : List Pl} {x : Pl} (h : ∀ y ∈ d, y.u ≠ x.u) : (wantsT (addU d x)).Perm ((x.u, x.s) :: wantsT d) := by
  rw [addU_eq h]
  exact (putPl_perm d x _).map fun y => (y.u, y.s)
theorem sum_perm {a b : List Sp} (h : a.Perm b) : sumS a = sumS b := by
  induction h with
  | nil => rfl
  | cons x _ ih => rw [sumS, sumS, ih]
  | swap x y l => rw [sumS, sumS, sumS, sumS]; omega
  | trans _ _ h1 h2 => exact h1.trans h2
/-- Wants that are right by themselves, the other way round. -/
theorem WOk.chk {f : Int} {ws : List Sp} (hf : 2 ≤ f) (hf2 : f ≤ 64) (h : WOk f ws) : chkT f ws = 0 := by
  unfold chkT
  rw [if_neg (by omega), chkL_zero]
  intro i y hy
  obtain ⟨h1, h2, h3⟩ := h.all y (List.mem_of_getElem? hy)
  rw [chkE_zero]
  refine ⟨h1, h2, h3, ?_⟩
  rw [List.nil_append, List.any_eq_false]
  intro s hs
  obtain ⟨j, hj, hsj⟩ := List.mem_take_iff_getElem.1 hs
  obtain ⟨hi, rfl⟩ := List.getElem?_eq_some_iff.1 hy
  have hn := h.two
  rw [List.Nodup, List.pairwise_iff_getElem] at hn
  have := hn j i (by rw [List.length_map]; omega) (by rw [List.length_map]; exact hi) (by omega)
  rw [List.getElem_map, List.getElem_map, hsj] at this
  simpa using this
theorem WOk.sub {f : Int} {a b : List Sp} (h : WOk f b) (hs : a.Sublist b) : WOk f a := ⟨fun w hw => h.all w (hs.subset hw), h.two.sublist (hs.map _)⟩
structure FitAll (l0 : List Pl) (ws : List Sp) (st : List Pl × List Sp) : Prop where
  perm : (wantsT st.1 ++ st.2).Perm (wantsT l0 ++ ws)
  sub : st.2.Sublist ws
  split : splitsN st.1 = splitsN l0
theorem splits_add {d : List Pl} {x : Pl} (h : ∀ y ∈ d, y.u ≠ x.u) (hx : x.ps = []) : splitsN (addU d x) = splitsN d := by
  rw [addU_eq h, put_splits, hx]
  rfl
theorem fit_each {f : Int} {m : Nat} {l0 : List Pl} (hr : Right f m l0) {ws : List Sp} (hw : WOk f ws) (h0 : ∀ x ∈ l0, ∀ w ∈ ws, x.u ≠ w.1) : ∀ k : Nat, k ≤ ws.length → FitAll l0 (ws.take k) (fitT f m l0 (ws.take k))
  | 0, _ => ⟨List.Perm.refl _, List.Sublist.refl _, rfl⟩
  | k + 1, hk => by
    have ih := fit_each hr hw h0 k (by omega)
    have hI := fit_inv hr hw h0 k (by omega)
    have hx : ws[k]? = some ws[k] := List.getElem?_eq_getElem (by omega)
    have e : ws.take (k + 1) = ws.take k ++ [ws[k]] := by rw [List.take_add_one, hx, Option.toList_some]
    have hwk : WOk f (ws.take k ++ [ws[k]]) := by
      rw [← e]
      exact WOk.front (b := ws.drop (k + 1)) (by rw [List.take_append_drop]; exact hw)
    rw [fitT_take hx, e]
    generalize ws[k] = w at *
    generalize fitT f m l0 (ws.take k) = st at *
    have hn : ∀ y ∈ st.1, y.u ≠ w.1 := fun y hy => by
      rcases hI.units y hy with hl | ⟨v, hv, he⟩
      · exact h0 y hl w (List.mem_of_getElem? hx)
      · rw [← he]
        exact hwk.last v hv
    cases hf : firstR f m st.1 w.2 with
    | none =>
      rw [fitS_none hf]
      refine ⟨?_, ih.sub.append (List.Sublist.refl _), ih.split⟩
      show (wantsT st.1 ++ (st.2 ++ [w])).Perm _
      rw [← List.append_assoc, ← List.append_assoc]
      exact ih.perm.append_right [w]
    | some c =>
      rw [fitS_some hf]
      have hn' : ∀ y ∈ st.1, y.u ≠ (⟨w.1, w.2, (c : Int), []⟩ : Pl).u := hn
      refine ⟨?_, ih.sub.trans (List.sublist_append_left _ _), ?_⟩
      · show (wantsT (addU st.1 ⟨w.1, w.2, (c : Int), []⟩) ++ st.2).Perm _
        refine ((addU_wants hn').append_right st.2).trans ?_
        rw [← List.append_assoc]
        refine (List.Perm.cons w ih.perm).trans ?_
        exact (List.perm_append_singleton w _).symm
      · show splitsN (addU st.1 ⟨w.1, w.2, (c : Int), []⟩) = _
        rw [splits_add hn' rfl]
        exact ih.split
theorem fit_every {f : Int} {m : Nat} {l0 : List Pl} (hr : Right f m l0) {ws : List Sp} (hw : WOk f ws) (h0 : ∀ x ∈ l0, ∀ w ∈ ws, x.u ≠ w.1) : FitAll l0 ws (fitT f m l0 ws) := by
  have := fit_each hr hw h0 ws.length (Nat.le_refl _)
  rwa [List.take_length] at this

theorem ch_each {f : Int} {m : Nat} {l : List Pl} {ws : List Sp} (h : ChGoes f m l ws) : ∀ k : Nat, k ≤ ws.length → (wantsT (chT f m l (ws.take k)).1).Perm (wantsT l ++ ws.take k)
  | 0, _ => by rw [List.take_zero, List.append_nil]; exact List.Perm.refl _
  | k + 1, hk => by
    have ih := ch_each h k (by omega)
    have hI := h.inv k (by omega)
    have hx : ws[k]? = some ws[k] := List.getElem?_eq_getElem (by omega)
    have e : ws.take (k + 1) = ws.take k ++ [ws[k]] := by rw [List.take_add_one, hx, Option.toList_some]
    have hW := (WOk.of_chk h.goes.chk).2
    have hwk : WOk f (ws.take k ++ [ws[k]]) := by
      rw [← e]
      exact WOk.front (b := ws.drop (k + 1)) (by rw [List.take_append_drop]; exact hW)
    rw [chT_take hx, e]
    have hm := List.mem_of_getElem? hx
    generalize ws[k] = w at *
    obtain ⟨l', a, hst⟩ : ∃ l' a, chT f m l (ws.take k) = (l', a) := ⟨_, _, rfl⟩
    rw [hst] at ih hI ⊢
    simp only at ih
    have hn : ∀ y ∈ l', y.u ≠ w.1 := fun y hy => by
      rcases hI.units y hy with hl | ⟨v, hv, he⟩
      · exact anyB_no h.goes.none y hl w hm
      · rw [← he]
        exact hwk.last v hv
    have key : ∀ x : Pl, x.u = w.1 → x.s = w.2 → (wantsT (addU l' x)).Perm (wantsT l ++ (ws.take k ++ [w])) := fun x h1 h2 => by
      refine (addU_wants (fun y hy => by rw [h1]; exact hn y hy)).trans ?_
      rw [h1, h2, ← List.append_assoc]
      refine (List.Perm.cons _ ih).trans ?_
      exact (List.perm_append_singleton w _).symm
    by_cases hc : w.2.toNat ≤ rmN f m l' (curN (rmN f m l'))
    · rw [chS_whole hc]
      exact key _ rfl rfl
    · rw [chS_split hc]
      exact key _ rfl rfl
theorem ch_every {f : Int} {m : Nat} {l : List Pl} {ws : List Sp} (h : ChGoes f m l ws) : (wantsT (chT f m l ws).1).Perm (wantsT l ++ ws) := by
  have := ch_each h ws.length (Nat.le_refl _)
  rwa [List.take_length] at this

noncomputable def fullT (f : Int) (m : Nat) (ws : List Sp) : List Pl := (chT f m (fitT f m [] (sortT ws)).1 (fitT f m [] (sortT ws)).2).1
/-- Why there is none. -/
def Why20 (f : Int) (m : Nat) (ws : List Sp) (E : Int) : Prop :=
  (¬ Right f m [] ∧ E = 30) ∨ (Right f m [] ∧ chkT f ws ≠ 0 ∧ E = chkT f ws) ∨ (Right f m [] ∧ chkT f ws = 0 ∧ f * (coresN m : Int) < sumS ws ∧ E = 12) ∨ (Right f m [] ∧ chkT f ws = 0 ∧ sumS ws ≤ f * (coresN m : Int) ∧ E = 0)
structure FullOk (f : Int) (m : Nat) (ws : List Sp) : Prop where
  right : Right f m []
  chk : chkT f ws = 0
  sum : sumS ws ≤ f * (coresN m : Int)
theorem Why20.unique {f : Int} {m : Nat} {ws : List Sp} {E E' : Int} (h : Why20 f m ws E) (h' : Why20 f m ws E') : E = E' := by
  rcases h with ⟨h1, rfl⟩ | ⟨h1, h2, rfl⟩ | ⟨h1, h2, h3, rfl⟩ | ⟨h1, h2, h3, rfl⟩ <;> rcases h' with ⟨k1, rfl⟩ | ⟨k1, k2, rfl⟩ | ⟨k1, k2, k3, rfl⟩ | ⟨k1, k2, k3, rfl⟩ <;> first | rfl | exact absurd h1 k1 | exact absurd k1 h1 | exact absurd k2 h2 | exact absurd h2 k2 | (exfalso; omega)
theorem Why20.zero {f : Int} {m : Nat} {ws : List Sp} (h : Why20 f m ws 0) : FullOk f m ws := by
  rcases h with ⟨_, h0⟩ | ⟨_, h2, h0⟩ | ⟨_, _, _, h0⟩ | ⟨h1, h2, h3, _⟩
  · exact absurd h0 (by decide)
  · exact absurd h0.symm h2
  · exact absurd h0 (by decide)
  · exact ⟨h1, h2, h3⟩
theorem FullOk.why {f : Int} {m : Nat} {ws : List Sp} (h : FullOk f m ws) : Why20 f m ws 0 := .inr (.inr (.inr ⟨h.right, h.chk, h.sum, rfl⟩))
theorem FullOk.inv {f : Int} {m : Nat} {ws : List Sp} (h : FullOk f m ws) : FitInv f m [] (sortT ws) (fitT f m [] (sortT ws)) :=
  fit_all h.right ((WOk.of_chk h.chk).2.perm (sortT_perm ws)) fun x hx => by cases hx
theorem FullOk.each {f : Int} {m : Nat} {ws : List Sp} (h : FullOk f m ws) : FitAll [] (sortT ws) (fitT f m [] (sortT ws)) :=
  fit_every h.right ((WOk.of_chk h.chk).2.perm (sortT_perm ws)) fun x hx => by cases hx
theorem FullOk.goes {f : Int} {m : Nat} {ws : List Sp} (h : FullOk f m ws) : ChGoes f m (fitT f m [] (sortT ws)).1 (fitT f m [] (sortT ws)).2 := by
  have hI := h.inv
  have hE := h.each
  have hW := (WOk.of_chk h.chk).2.perm (sortT_perm ws)
  have hf := (WOk.of_chk h.chk).1
  generalize fitT f m [] (sortT ws) = st at *
  have hp : (wantsT st.1 ++ st.2).Perm (sortT ws) := hE.perm
  have hnd : ((wantsT st.1 ++ st.2).map Prod.fst).Nodup := ((hp.map _).nodup_iff).2 hW.two
  rw [List.map_append] at hnd
  refine ⟨⟨hI.right, (hW.sub hE.sub).chk hf.1 hf.2, ?_⟩, hE.split, ?_⟩
  · unfold anyB
    rw [List.any_eq_false]
    intro w hw hs
    unfold findU at hs
    rw [List.find?_isSome] at hs
    obtain ⟨x, hx, he⟩ := hs
    have he' : x.u = w.1 := by simpa using he
    exact (List.nodup_append.1 hnd).2.2 x.u (List.mem_map.2 ⟨(x.u, x.s), List.mem_map_of_mem (f := fun y : Pl => (y.u, y.s)) hx, rfl⟩) w.1 (List.mem_map_of_mem hw) he'
  · have h1 := hI.right.all
    have h2 := hI.sum
    have h3 := sum_perm (sortT_perm ws)
    have h4 := h.sum
    rw [show sumS (wantsT []) = 0 from rfl] at h2
    omega
/-- What the whole plan is. -/
structure FullIs (f : Int) (m : Nat) (ws : List Sp) (L : List Pl) : Prop where
  right : Right f m L
  perm : (wantsT L).Perm ws
  free : freeT f m L 16 = f * (coresN m : Int) - sumS ws
  ok : ∀ x ∈ L, PlOk x ∧ x.ps.length ≤ 1000
  len : L.length = ws.length
  got : ∀ w ∈ ws, ∃ x, findU L w.1 = some x ∧ x.u = w.1 ∧ x.s = w.2
theorem FullOk.is {f : Int} {m : Nat} {ws : List Sp} (h : FullOk f m ws) : FullIs f m ws (fullT f m ws) := by
  have hI := h.inv
  have hE := h.each
  have hG := h.goes
  have hC := hG.all
  have hP := ch_every hG
  unfold fullT
  generalize fitT f m [] (sortT ws) = st at *
  obtain ⟨L, a, hst⟩ : ∃ L a, chT f m st.1 st.2 = (L, a) := ⟨_, _, rfl⟩
  rw [hst] at hC hP ⊢
  simp only at hP
  have hR : Right f m L := hC.ready.right
  have hp : (wantsT L).Perm ws := hP.trans (hE.perm.trans (sortT_perm ws))
  refine ⟨hR, hp, ?_, fun x hx => hC.ok (hI.ok fun y hy => by cases hy) x hx, ?_, fun w hw => ?_⟩
  · have h1 := hR.all
    have h2 := sum_perm hp
    show freeT f m L 16 = _
    omega
  · have := hp.length_eq
    rw [wantsT_length] at this
    exact this
  · have hm := hp.mem_iff.2 hw
    obtain ⟨x, hx, he⟩ := List.mem_map.1 hm
    have e1 : x.u = w.1 := by rw [← he]
    have e2 : x.s = w.2 := by rw [← he]
    exact ⟨x, by rw [← e1]; exact hR.found hx, e1, e2⟩
theorem Right.rising {f : Int} {m : Nat} {l : List Pl} (h : Right f m l) : (wantsT l).Pairwise fun x y => x.1 < y.1 := by
  have := h.pairs
  unfold wantsT
  rw [List.pairwise_map]
  exact this
end Go.Proofs.YtpfpojehcjmfnaaGreat

/-
  A whole plan: how long its parts are; no places at all.
  Conditions: none.
-/
set_option linter.unusedVariables false
namespace Go.Proofs.YtpfpojehcjmfnaaGreat

theorem light_nil : LightL [] := ⟨by decide, fun x hx => by cases hx⟩
theorem anyB_nil (ws : List Sp) : anyB [] ws = false := by
  unfold anyB
  rw [List.any_eq_false]
  intro w hw
  simp [findU]
theorem right_nil {f : Int} {m : Nat} (h1 : 2 ≤ f) (h2 : f ≤ 64) (h3 : m ≠ 0) (h4 : m < 65536) (h5 : 0 < coresN m) : Right f m [] := by
  refine ⟨h1, h2, h3, h4, fun x hx => (by cases hx), fun i x y hx => (by simp at hx), fun c _ t _ => Nat.zero_le _, h5, fun c _ _ => ?_⟩
  have : loadN [] (c : Int) = 0 := by
    unfold loadN
    rw [show pcsOf [] = [] from rfl, winN_nil]
    rfl
  omega
theorem few_fit {f : Int} {m : Nat} {ws : List Sp} (hr : Right f m []) (hc : chkT f ws = 0) : FitInv f m [] (sortT ws) (fitT f m [] (sortT ws)) ∧ FitAll [] (sortT ws) (fitT f m [] (sortT ws)) :=
  ⟨fit_all hr ((WOk.of_chk hc).2.perm (sortT_perm ws)) fun x hx => (by cases hx), fit_every hr ((WOk.of_chk hc).2.perm (sortT_perm ws)) fun x hx => (by cases hx)⟩
theorem fit_lens {f : Int} {m : Nat} {ws : List Sp} (hr : Right f m []) (hc : chkT f ws = 0) : (fitT f m [] (sortT ws)).1.length + (fitT f m [] (sortT ws)).2.length = ws.length ∧ ws.length ≤ 240 := by
  have h1 := (few_fit hr hc).2.perm.length_eq
  have h2 := (sortT_perm ws).length_eq
  rw [List.length_append, wantsT_length] at h1
  refine ⟨?_, few_wants hc⟩
  rw [h1, ← h2]
  show (wantsT [] ++ sortT ws).length = _
  rfl
theorem fit_light {f : Int} {m : Nat} {ws : List Sp} (hr : Right f m []) (hc : chkT f ws = 0) : LightL (fitT f m [] (sortT ws)).1 :=
  ⟨by have := fit_lens hr hc; omega, (few_fit hr hc).1.ok fun y hy => by cases hy⟩
theorem fit_ints {f : Int} {m : Nat} {ws : List Sp} (hr : Right f m []) (hc : chkT f ws = 0) (hi : IntsS ws) : IntsS (fitT f m [] (sortT ws)).2 := fun s hs => hi s ((sortT_perm ws).mem_iff.1 ((few_fit hr hc).2.sub.subset hs))
theorem FullOk.light {f : Int} {m : Nat} {ws : List Sp} (h : FullOk f m ws) : LightL (fitT f m [] (sortT ws)).1 := fit_light h.right h.chk
theorem fit_over {f : Int} {m : Nat} {ws : List Sp} (hr : Right f m []) (hc : chkT f ws = 0) :
    Goes f m (fitT f m [] (sortT ws)).1 (fitT f m [] (sortT ws)).2 ∧ splitsN (fitT f m [] (sortT ws)).1 = 0 ∧ sumS (fitT f m [] (sortT ws)).2 - freeT f m (fitT f m [] (sortT ws)).1 16 = sumS ws - f * (coresN m : Int) := by
  obtain ⟨hI, hE⟩ := few_fit hr hc
  have hW := (WOk.of_chk hc).2.perm (sortT_perm ws)
  have hf := (WOk.of_chk hc).1
  generalize fitT f m [] (sortT ws) = st at *
  have hp : (wantsT st.1 ++ st.2).Perm (sortT ws) := hE.perm
  have hnd : ((wantsT st.1 ++ st.2).map Prod.fst).Nodup := ((hp.map _).nodup_iff).2 hW.two
  rw [List.map_append] at hnd
  refine ⟨⟨hI.right, (hW.sub hE.sub).chk hf.1 hf.2, ?_⟩, hE.split, ?_⟩
  · unfold anyB
    rw [List.any_eq_false]
    intro w hw hs
    unfold findU at hs
    rw [List.find?_isSome] at hs
    obtain ⟨x, hx, he⟩ := hs
    have he' : x.u = w.1 := by simpa using he
    exact (List.nodup_append.1 hnd).2.2 x.u (List.mem_map.2 ⟨(x.u, x.s), List.mem_map_of_mem (f := fun y : Pl => (y.u, y.s)) hx, rfl⟩) w.1 (List.mem_map_of_mem hw) he'
  · have h1 := hI.right.all
    have h2 := hI.sum
    have h3 := sum_perm (sortT_perm ws)
    rw [show sumS (wantsT []) = 0 from rfl] at h2
    omega
theorem ChGoes.why {f : Int} {m : Nat} {l : List Pl} {ws : List Sp} (h : ChGoes f m l ws) : Why19 f m l ws 0 := .inr (.inr (.inr ⟨h, rfl⟩))
/-- Too many for the rooms left: too many for the cores. -/
theorem Why20.of {f : Int} {m : Nat} {ws : List Sp} {E : Int} (hr : Right f m []) (hc : chkT f ws = 0) (h : Why19 f m (fitT f m [] (sortT ws)).1 (fitT f m [] (sortT ws)).2 E) : Why20 f m ws E := by
  obtain ⟨hg, hs, hd⟩ := fit_over hr hc
  by_cases ht : sumS ws ≤ f * (coresN m : Int)
  · have hO : FullOk f m ws := ⟨hr, hc, ht⟩
    have hE := h.unique hO.goes.why
    subst hE
    exact hO.why
  · have hE := h.unique (.inr (.inr (.inl ⟨hg.why, hs, by omega, rfl⟩)))
    subst hE
    exact .inr (.inr (.inl ⟨hr, hc, by omega, rfl⟩))
theorem Why20.fit {f : Int} {m : Nat} {ws : List Sp} {E : Int} (h : Why f m [] ws E) (h0 : E ≠ 0) : Why20 f m ws E := by
  rcases h with ⟨h1, h2⟩ | ⟨h1, h2, h3⟩ | ⟨_, _, h3, _⟩ | ⟨_, _, _, h3⟩
  · exact .inl ⟨h1, h2⟩
  · exact .inr (.inl ⟨h1, h2, h3⟩)
  · rw [anyB_nil] at h3
    cases h3
  · exact absurd h3 h0
end Go.Proofs.YtpfpojehcjmfnaaGreat

/-
  What the calls of pack answer: the contracts' words.
  Conditions: none.
-/
set_option linter.unusedVariables false
namespace Go.Proofs.YtpfpojehcjmfnaaGreat
open Go.RowKit

/-- What Full answers. -/
def RetFull (f : Int) (m : Nat) (ws : List Sp) (w : World) (e : Ending) (w' : World) : Prop := ∃ E : Int, Why20 f m ws E ∧ Below w.heap.size w w' ∧
  ((E = 0 ∧ ∃ v, e = .returned (.tuple #[planA f m v, .int .i64 0]) ∧ PlsAt w' v (fullT f m ws)) ∨
   (E ≠ 0 ∧ e = .returned (.tuple #[planA 0 0 (.slice none 0 0), .int .i64 E])))
end Go.Proofs.YtpfpojehcjmfnaaGreat

/-
  rightCores, rightSplit and rightPlaces of the program.
  Conditions: the slices read as pieces, as places; the numbers are of their kinds.
-/
set_option linter.unusedVariables false
set_option linter.unusedSimpArgs false
namespace Go.Proofs.YtpfpojehcjmfnaaGreat
open Go.RowKit Go.Sort

theorem rightCores_any (m : Nat) (w : World) : Calls Tryz.prog 96 #[.int .u32 m] w (Ret (.bool (decide (m ≠ 0 ∧ m < 65536))) w) := by
  by_cases h0 : m = 0
  · have e : decide (m ≠ 0 ∧ m < 65536) = false := decide_eq_false fun h => h.1 h0
    have h1 : ((m : Int) != 0) = false := by subst h0; rfl
    rw [e]
    clear e h0
    go_enter Tryz.func96, Tryz.ntmps96
    go_wp2
    go_ret
    exact ⟨rfl, rfl⟩
  · have h1 : ((m : Int) != 0) = true := by simpa using h0
    by_cases h2 : m < 65536
    · have e : decide (m ≠ 0 ∧ m < 65536) = true := decide_eq_true ⟨h0, h2⟩
      have h3 : (m : Int) < 65536 := by omega
      rw [e]
      clear e h0
      go_enter Tryz.func96, Tryz.ntmps96
      go_wp2
      go_ret
      exact ⟨rfl, rfl⟩
    · have e : decide (m ≠ 0 ∧ m < 65536) = false := decide_eq_false fun h => h2 h.2
      have h3 : decide ((m : Int) < 65536) = false := decide_eq_false (by omega)
      rw [e]
      clear e h0
      go_enter Tryz.func96, Tryz.ntmps96
      go_wp2
      go_ret
      exact ⟨rfl, rfl⟩

theorem free_nil (f : Int) (h : 0 ≤ f) (h2 : f ≤ 64) : allN (frN f) = freeN f [] := by
  refine eq_setP (allN_lt (frN_le f)) fun t ht => ?_
  rw [allN_bit]
  have e : decide (nAny [] t = 0) = true := decide_eq_true rfl
  rw [e, Bool.and_true]
  unfold frN
  by_cases h1 : (t : Int) < f
  · rw [decide_eq_true h1, decide_eq_true (by omega)]
  · rw [decide_eq_false h1, decide_eq_false (by omega)]
def lastC (q : List Pc) : Int := (q.getLast?.map Pc.c).getD (-1)
theorem lastC_next {q : List Pc} {k : Nat} {y : Pc} (hy : q[k]? = some y) : lastC (q.take (k + 1)) = y.c := last_at hy
theorem kept_next {f : Int} {q : List Pc} {k : Nat} {y : Pc} (hy : q[k]? = some y) (hyt : y.t < 18446744073709551616) (hk : Kept f (q.take k)) : lessN y.t (freeN f (q.take k)) = 0 ↔ Kept f (q.take (k + 1)) := by
  rw [fits_iff hyt hk, List.take_add_one, hy]
  rfl
theorem free_step {f : Int} {q : List Pc} {k : Nat} {y : Pc} (hy : q[k]? = some y) : lessN (freeN f (q.take k)) y.t = freeN f (q.take (k + 1)) := by
  rw [free_next, List.take_add_one, hy]
  rfl
theorem kept_take {f : Int} {q : List Pc} (h : Kept f q) (k : Nat) : Kept f (q.take k) := by
  rw [← List.take_append_drop k q] at h
  exact kept_prefix h

set_option maxRecDepth 100000 in
set_option maxHeartbeats 8000000 in
theorem rightSplit_any (f : Int) (m : Nat) (pv v : Value) (x : Pl) (w : World) (h : PcsAt w v x.ps) (hxo : PlOk x) (hl : x.ps.length ≤ 1000) (hm : m < 4294967296) (hf : 2 ≤ f) (hf2 : f ≤ 64) :
    Calls Tryz.prog 144 #[planA f m pv, plA v x] w (RetIff (SplitOk f m x) w) := by
  have HHC := Lib.hid (fun c W => hasCore_any f m pv c W hm)
  have HAL := Lib.hid (fun W => all_any f W)
  rw [free_nil f (by omega) hf2] at HAL
  have HYO := Lib.hid hxo.2.2.2
  have HH := Lib.hid h
  obtain ⟨A, d, rfl⟩ := h.form
  obtain ⟨xu, xs, xc, ps⟩ := x
  simp only at *
  obtain ⟨w1, P, hw1, hP, hPl, hb1, hbox⟩ := box_any w #[.int .i64 f, .int .u32 m, pv] 26
  obtain ⟨w2, X, hw2, hX, hXl, hb2, hxbox⟩ := box_any w1 #[.int .i64 xu, .int .i64 xs, .int .i64 xc, .slice A ps.length d] 48
  obtain ⟨n, hn⟩ : ∃ n, ps.length = n := ⟨_, rfl⟩
  rw [hn] at HH hl hw2 hxbox ⊢
  have HN := Lib.hid hn
  have HB2 := Lib.hid (hb1.trans (hb2.mono hb1.size))
  have HPB := Lib.hid (keep_block hbox hb2)
  have HXB := Lib.hid hxbox
  obtain ⟨p0, p1, p2⟩ := three_heads HPB.out
  obtain ⟨q0, q1, q2, q3⟩ := four_heads hxbox
  have mixed : Tryz.prog.follows .mixedOrders = true := by kernel_rfl
  unfold planA at HHC ⊢
  unfold plA
  clear h hxo hb1 hb2 hbox hxbox hn
  by_cases hxc : xc = 0
  · have hc0 : (xc != 0) = false := by simpa using hxc
    by_cases hn2 : n < 2
    · have hn3 : (n : Int) < 2 := by omega
      have HNO := Lib.hid (show ¬ SplitOk f m ⟨xu, xs, xc, ps⟩ from fun h => by have h2 : 2 ≤ ps.length := h.two; rw [HN.out] at h2; omega)
      clear hxc
      go_enter Tryz.func144, Tryz.ntmps144
      go_wp2_with fail
      go_ret
      exact RetIff.no HNO.out HB2.out
    · have hn3 : decide ((n : Int) < 2) = false := decide_eq_false (by omega)
      have hn4 : decide (n < 2) = false := decide_eq_false hn2
      have HXC := Lib.hid hxc
      have HN2 := Lib.hid (show 2 ≤ n by omega)
      clear hxc
      go_enter Tryz.func144, Tryz.ntmps144
      go_wp2_with (go_at_call 173; refine (HAL.out _).mono ?_; rintro e w' ⟨rfl, rfl⟩)
      clear hw1 hP hw2 hX p0 p1 p2 q0 q1 q2 q3
      go_loopg [5, 6, 8, 24] n (fun gg s5 s6 _ s24 wr => ∃ (k fr : Nat) (la : Int), k ≤ n ∧ gg = n - k ∧ s24 = .int .i64 k ∧ s5 = .int .i64 la ∧ s6 = .int .u64 fr ∧ Hid (la = lastC (ps.take k) ∧ fr = freeN f (ps.take k) ∧ Rise m (-1) (ps.take k) ∧ Kept f (ps.take k)) ∧ Below w2.heap.size w2 wr)
      case atStart => exact ⟨0, _, _, Nat.zero_le _, by omega, rfl, rfl, rfl, ⟨rfl, rfl, trivial, kept_nil f⟩, Below.refl _ _⟩
      case round =>
        obtain ⟨k, fr, la, hk, hg, rfl, rfl, rfl, HI, hbw⟩ := hrel
        have HG := Lib.hid hg
        have HBW := Lib.hid hbw
        have HPR := Lib.hid (keep_block HPB.out hbw)
        have HXR := Lib.hid (keep_block HXB.out hbw)
        have HB := Lib.hid (HB2.out.trans (hbw.mono HB2.out.size))
        have HPS := Lib.hid (HH.out.keep HB.out)
        have hfrl : fr < 18446744073709551616 := by rw [HI.2.1]; exact freeN_lt _ _
        obtain ⟨p0, p1, p2⟩ := three_heads HPR.out
        obtain ⟨q0, q1, q2, q3⟩ := four_heads HXR.out
        clear hg hbw
        by_cases hlt : k < n
        · have hltz : (k : Int) < (n : Int) := by omega
          have hk0 : (0 : Int) ≤ (k : Int) := by omega
          obtain ⟨y, hy⟩ := exP_at (xs := ps) (k := k) (by rw [HN.out]; exact hlt)
          obtain ⟨b, off, hA, hbl, _, c0, c1⟩ := HPS.out.at_ hy
          subst hA
          have HRN := Lib.hid (rise_next (m := m) hy)
          have hyt := (HYO.out y (List.mem_of_getElem? hy)).2
          have HKN := Lib.hid (kept_next (f := f) hy hyt HI.2.2.2)
          have HFN := Lib.hid (free_step (f := f) hy)
          have HLN := Lib.hid (lastC_next hy)
          obtain ⟨yc, yt⟩ := y
          simp only at c0 c1 HRN HKN HFN HLN hyt
          obtain ⟨w3, Y, hw3, hY, hYl, hb3, hyb⟩ := box_any wr #[.int .i64 yc, .int .u64 yt] 84
          have HB31 := Lib.hid (HBW.out.trans (hb3.mono HBW.out.size))
          have HB3 := Lib.hid (HB2.out.trans (HB31.out.mono HB2.out.size))
          have HP3 := Lib.hid (keep_block HPR.out hb3)
          have HX3 := Lib.hid (keep_block HXR.out hb3)
          have HYB := Lib.hid hyb
          have HCC := Lib.hid (fun W => HHC.out yc W)
          have HNK := Lib.hid (show SplitOk f m ⟨xu, xs, xc, ps⟩ → (hasC m yc = true ∧ lastC (ps.take k) < yc ∧ yt ≠ 0) ∧ Kept f (ps.take (k + 1)) from fun h => ⟨(HRN.out.1 (rise_take h.rise _)).2, kept_take h.kept _⟩)
          obtain ⟨y0, y1⟩ := two_heads hyb
          obtain ⟨v0, v1, v2⟩ := three_heads HP3.out
          clear hb3 hyb hy
          by_cases hle : yc ≤ la
          · have HNO := Lib.hid (show ¬ SplitOk f m ⟨xu, xs, xc, ps⟩ from fun h => by have := (HNK.out h).1.2.1; rw [← HI.1] at this; omega)
            go_wp2_with fail
            go_ret
            exact RetIff.no HNO.out HB3.out
          · have hle' : decide (yc ≤ la) = false := decide_eq_false hle
            cases hh : hasC m yc with
            | false =>
              rw [hh] at HCC
              have HNO := Lib.hid (show ¬ SplitOk f m ⟨xu, xs, xc, ps⟩ from fun h => by have := (HNK.out h).1.1; rw [hh] at this; cases this)
              clear hh
              go_wp2_with fail
              refine (HCC.out _).mono ?_
              rintro e w4 ⟨rfl, hb4⟩
              have HB4 := Lib.hid (HB3.out.trans (hb4.mono HB3.out.size))
              clear hb4
              go_wp2_with fail
              go_ret
              exact RetIff.no HNO.out HB4.out
            | true =>
              rw [hh] at HCC
              have HHH := Lib.hid hh
              clear hh
              by_cases hyz : yt = 0
              · have HNO := Lib.hid (show ¬ SplitOk f m ⟨xu, xs, xc, ps⟩ from fun h => (HNK.out h).1.2.2 hyz)
                have hy1 : ((yt : Int) == 0) = true := by subst hyz; rfl
                clear hyz
                go_wp2_with fail
                refine (HCC.out _).mono ?_
                rintro e w4 ⟨rfl, hb4⟩
                have HB4 := Lib.hid (HB3.out.trans (hb4.mono HB3.out.size))
                obtain ⟨u0, u1⟩ := two_heads (keep_block HYB.out hb4)
                clear hb4
                go_wp2_with fail
                go_ret
                exact RetIff.no HNO.out HB4.out
              · have hy1 : ((yt : Int) == 0) = false := by simpa using hyz
                have HYZ := Lib.hid hyz
                have ea := andNot_word yt fr hyt hfrl
                have eb := andNot_word fr yt hfrl hyt
                obtain ⟨Z, hZ⟩ : ∃ Z, lessN yt fr = Z := ⟨_, rfl⟩
                obtain ⟨F2, hF2⟩ : ∃ F2, lessN fr yt = F2 := ⟨_, rfl⟩
                rw [hZ] at ea
                rw [hF2] at eb
                have HZ := Lib.hid (show Z = 0 ↔ Kept f (ps.take (k + 1)) by rw [← hZ, HI.2.1]; exact HKN.out)
                have HF2 := Lib.hid (show F2 = freeN f (ps.take (k + 1)) by rw [← hF2, HI.2.1]; exact HFN.out)
                clear hyz hZ hF2
                by_cases hz : Z = 0
                · have hz1 : ((Z : Int) != 0) = false := by subst hz; rfl
                  have HIN : Hid (yc = lastC (ps.take (k + 1)) ∧ F2 = freeN f (ps.take (k + 1)) ∧ Rise m (-1) (ps.take (k + 1)) ∧ Kept f (ps.take (k + 1))) :=
                    ⟨HLN.out.symm, HF2.out, HRN.out.2 ⟨HI.2.2.1, HHH.out, by show lastC (ps.take k) < yc; rw [← HI.1]; omega, HYZ.out⟩, HZ.out.1 hz⟩
                  clear hz
                  go_wp2_with fail
                  refine (HCC.out _).mono ?_
                  rintro e w4 ⟨rfl, hb4⟩
                  have HB4 := Lib.hid (HB31.out.trans (hb4.mono HB31.out.size))
                  obtain ⟨u0, u1⟩ := two_heads (keep_block HYB.out hb4)
                  clear hb4 y0 y1 v0 v1 v2 p0 p1 p2 q0 q1 q2 q3 c0 c1 hw3
                  go_wp2_with fail
                  go_quiet (fail)
                  go_wp2_with fail
                  go_roundg (n - (k + 1))
                  case measure => have := HG.out; omega
                  case rel => exact ⟨k + 1, F2, yc, by omega, rfl, by go_num, rfl, rfl, HIN, below_drewN HB4.out _⟩
                · have hz1 : ((Z : Int) != 0) = true := by simpa using hz
                  have HNO := Lib.hid (show ¬ SplitOk f m ⟨xu, xs, xc, ps⟩ from fun h => hz (HZ.out.2 (HNK.out h).2))
                  clear hz
                  go_wp2_with fail
                  refine (HCC.out _).mono ?_
                  rintro e w4 ⟨rfl, hb4⟩
                  have HB4 := Lib.hid (HB3.out.trans (hb4.mono HB3.out.size))
                  obtain ⟨u0, u1⟩ := two_heads (keep_block HYB.out hb4)
                  clear hb4
                  go_wp2_with fail
                  go_ret
                  exact RetIff.no HNO.out HB4.out
        · have hltz : ¬ (k : Int) < (n : Int) := by omega
          have HE : Hid (fr = freeN f ps ∧ Rise m (-1) ps ∧ Kept f ps) := by
            have h := HI.2
            rw [List.take_of_length_le (by rw [HN.out]; omega)] at h
            exact h
          have HCN := Lib.hid (fun W => count_any fr W hfrl)
          have hc64 := cnt_le fr
          have HCE := Lib.hid (show (cnt fr : Int) + (sumTo (nAny ps) 64 : Int) = f by rw [HE.1]; exact free_cnt HE.2.2 (by omega) hf2)
          obtain ⟨c, hc⟩ : ∃ c, cnt fr = c := ⟨_, rfl⟩
          rw [hc] at HCN hc64 HCE
          have hw64 : IntKind.i64.wrap (f - (c : Int)) = f - (c : Int) := IntWalk.i64_in _ (by omega)
          have lP := heap_lt HPR.out
          clear hc
          obtain ⟨D, hD⟩ : ∃ D, f - (c : Int) = D := ⟨_, rfl⟩
          have HD := Lib.hid hD
          cases hde : (D == xs) with
          | true =>
            have HYE := Lib.hid (show SplitOk f m ⟨xu, xs, xc, ps⟩ from ⟨HXC.out, by show 2 ≤ ps.length; rw [HN.out]; exact HN2.out, HE.2.1, HE.2.2, by
              have h1 : D = xs := by simpa using hde
              have h2 := HCE.out
              show (sumTo (nAny ps) 64 : Int) = xs
              omega⟩)
            rw [← hD] at hde
            clear hD
            go_wp2_with fail
            refine wp_region_held_drew (S := fun w' => w'.cell? ⟨P, 0, none⟩ = some (.int .i64 f) ∧ w'.cell? ⟨X, 1, none⟩ = some (.int .i64 xs)) (by kernel_rfl) ?_ (fun hHeld => ?_)
            · exact ⟨p0, q1⟩
            refine wpAnyH_take (i := 0) (oi := ⟨some 56, _, _, _, _, _⟩) (v := ?_) rfl (by kernel_rfl) (by kernel_rfl) (by kernel_rfl) (fun _ _ _ h => h) (Or.inl ⟨by kernel_rfl, ?_⟩) (by assumption) ?_
            rotate_left
            · (intro w hSw; (try dsimp only at hSw); go_simp; try with_reducible rfl)
            (try simp only [Act.put, List.setIfInBounds_toArray, List.set_cons_zero, List.set_cons_succ])
            refine wpAnyH_take (i := 1) (oi := ⟨some 57, _, _, _, _, _⟩) (v := ?_) rfl (by kernel_rfl) (by kernel_rfl) (by kernel_rfl) (fun _ _ _ h => h) (Or.inl ⟨by kernel_rfl, ?_⟩) (by assumption) ?_
            rotate_left
            · (intro w hSw; (try dsimp only at hSw); go_simp; try with_reducible rfl)
            (try simp only [Act.put, List.setIfInBounds_toArray, List.set_cons_zero, List.set_cons_succ])
            refine wpAnyH_take (i := 2) (oi := ⟨some 58, _, _, _, _, _⟩) (v := ?_) rfl (by kernel_rfl) (by kernel_rfl) (by kernel_rfl) (fun _ _ _ h => h) (Or.inl ⟨by kernel_rfl, ?_⟩) (by assumption) ?_
            rotate_left
            · (intro w hSw; (try dsimp only at hSw); go_simp; try with_reducible rfl)
            (try simp only [Act.put, List.setIfInBounds_toArray, List.set_cons_zero, List.set_cons_succ])
            refine wpAnyH_take (i := 5) (oi := ⟨some 61, _, _, _, _, _⟩) (v := ?_) rfl (by kernel_rfl) (by kernel_rfl) (by kernel_rfl) (fun _ _ _ h => h) (Or.inl ⟨by kernel_rfl, ?_⟩) (by assumption) ?_
            rotate_left
            · (intro w hSw; (try dsimp only at hSw); go_simp; try with_reducible rfl)
            (try simp only [Act.put, List.setIfInBounds_toArray, List.set_cons_zero, List.set_cons_succ])
            refine wpAnyH_take (i := 6) (oi := ⟨some 62, _, _, _, _, _⟩) (v := ?_) rfl (by kernel_rfl) (by kernel_rfl) (by kernel_rfl) (fun _ _ _ h => h) (Or.inl ⟨by kernel_rfl, ?_⟩) (by assumption) ?_
            rotate_left
            · (intro w hSw; (try dsimp only at hSw); go_simp; try with_reducible rfl)
            (try simp only [Act.put, List.setIfInBounds_toArray, List.set_cons_zero, List.set_cons_succ])
            refine wpAnyH_ready (rs := [3]) (by kernel_rfl) (by simp) ?_
            refine AllReadyH.cons (o := ⟨some 59, _, _, _, _, _⟩) rfl (fun K hK => ?_) AllReadyH.nil
            rw [if_pos (by kernel_rfl)]
            go_simp
            go_at_call 103; refine (HCN.out _).mono ?_; rintro e wq ⟨rfl, rfl⟩
            refine hK.out _ _ ?_ (fun hHeld => ?_)
            · exact hHeld
            clear hK K
            (try simp only [Act.put, List.setIfInBounds_toArray, List.set_cons_zero, List.set_cons_succ])
            refine wpAnyH_take (i := 4) (oi := ⟨some 60, _, _, _, _, _⟩) (v := ?_) rfl (by kernel_rfl) (by kernel_rfl) (by kernel_rfl) (fun _ _ _ h => h) (Or.inl ⟨by kernel_rfl, ?_⟩) (by assumption) ?_
            rotate_left
            · (intro w hSw; (try dsimp only at hSw); go_simp; try with_reducible rfl)
            (try simp only [Act.put, List.setIfInBounds_toArray, List.set_cons_zero, List.set_cons_succ])
            refine wpAnyH_take (i := 7) (oi := ⟨some 63, _, _, _, _, _⟩) (v := ?_) rfl (by kernel_rfl) (by kernel_rfl) (by kernel_rfl) (fun _ _ _ h => h) (Or.inl ⟨by kernel_rfl, ?_⟩) (by assumption) ?_
            rotate_left
            · (intro w hSw; (try dsimp only at hSw); go_simp; try with_reducible rfl)
            (try simp only [Act.put, List.setIfInBounds_toArray, List.set_cons_zero, List.set_cons_succ])
            refine wpAnyH_take (i := 8) (oi := ⟨some 4, _, _, _, _, _⟩) (v := ?_) rfl (by kernel_rfl) (by kernel_rfl) (by kernel_rfl) (fun _ _ _ h => h) (Or.inl ⟨by kernel_rfl, ?_⟩) (by assumption) ?_
            rotate_left
            · (intro w hSw; (try dsimp only at hSw); go_simp; try with_reducible rfl)
            (try simp only [Act.put, List.setIfInBounds_toArray, List.set_cons_zero, List.set_cons_succ])
            refine wpAnyH_done (by kernel_rfl) ?_ _
            go_wp2_with fail
            go_ret
            exact RetIff.yes HYE.out HB.out.drew
          | false =>
            have HNO := Lib.hid (show ¬ SplitOk f m ⟨xu, xs, xc, ps⟩ from fun h => by
              have h1 : (sumTo (nAny ps) 64 : Int) = xs := h.all
              have h2 := HCE.out
              have h3 : D ≠ xs := by simpa using hde
              omega)
            rw [← hD] at hde
            clear hD
            go_wp2_with fail
            refine wp_region_held_drew (S := fun w' => w'.cell? ⟨P, 0, none⟩ = some (.int .i64 f) ∧ w'.cell? ⟨X, 1, none⟩ = some (.int .i64 xs)) (by kernel_rfl) ?_ (fun hHeld => ?_)
            · exact ⟨p0, q1⟩
            refine wpAnyH_take (i := 0) (oi := ⟨some 56, _, _, _, _, _⟩) (v := ?_) rfl (by kernel_rfl) (by kernel_rfl) (by kernel_rfl) (fun _ _ _ h => h) (Or.inl ⟨by kernel_rfl, ?_⟩) (by assumption) ?_
            rotate_left
            · (intro w hSw; (try dsimp only at hSw); go_simp; try with_reducible rfl)
            (try simp only [Act.put, List.setIfInBounds_toArray, List.set_cons_zero, List.set_cons_succ])
            refine wpAnyH_take (i := 1) (oi := ⟨some 57, _, _, _, _, _⟩) (v := ?_) rfl (by kernel_rfl) (by kernel_rfl) (by kernel_rfl) (fun _ _ _ h => h) (Or.inl ⟨by kernel_rfl, ?_⟩) (by assumption) ?_
            rotate_left
            · (intro w hSw; (try dsimp only at hSw); go_simp; try with_reducible rfl)
            (try simp only [Act.put, List.setIfInBounds_toArray, List.set_cons_zero, List.set_cons_succ])
            refine wpAnyH_take (i := 2) (oi := ⟨some 58, _, _, _, _, _⟩) (v := ?_) rfl (by kernel_rfl) (by kernel_rfl) (by kernel_rfl) (fun _ _ _ h => h) (Or.inl ⟨by kernel_rfl, ?_⟩) (by assumption) ?_
            rotate_left
            · (intro w hSw; (try dsimp only at hSw); go_simp; try with_reducible rfl)
            (try simp only [Act.put, List.setIfInBounds_toArray, List.set_cons_zero, List.set_cons_succ])
            refine wpAnyH_take (i := 5) (oi := ⟨some 61, _, _, _, _, _⟩) (v := ?_) rfl (by kernel_rfl) (by kernel_rfl) (by kernel_rfl) (fun _ _ _ h => h) (Or.inl ⟨by kernel_rfl, ?_⟩) (by assumption) ?_
            rotate_left
            · (intro w hSw; (try dsimp only at hSw); go_simp; try with_reducible rfl)
            (try simp only [Act.put, List.setIfInBounds_toArray, List.set_cons_zero, List.set_cons_succ])
            refine wpAnyH_take (i := 6) (oi := ⟨some 62, _, _, _, _, _⟩) (v := ?_) rfl (by kernel_rfl) (by kernel_rfl) (by kernel_rfl) (fun _ _ _ h => h) (Or.inl ⟨by kernel_rfl, ?_⟩) (by assumption) ?_
            rotate_left
            · (intro w hSw; (try dsimp only at hSw); go_simp; try with_reducible rfl)
            (try simp only [Act.put, List.setIfInBounds_toArray, List.set_cons_zero, List.set_cons_succ])
            refine wpAnyH_ready (rs := [3]) (by kernel_rfl) (by simp) ?_
            refine AllReadyH.cons (o := ⟨some 59, _, _, _, _, _⟩) rfl (fun K hK => ?_) AllReadyH.nil
            rw [if_pos (by kernel_rfl)]
            go_simp
            go_at_call 103; refine (HCN.out _).mono ?_; rintro e wq ⟨rfl, rfl⟩
            refine hK.out _ _ ?_ (fun hHeld => ?_)
            · exact hHeld
            clear hK K
            (try simp only [Act.put, List.setIfInBounds_toArray, List.set_cons_zero, List.set_cons_succ])
            refine wpAnyH_take (i := 4) (oi := ⟨some 60, _, _, _, _, _⟩) (v := ?_) rfl (by kernel_rfl) (by kernel_rfl) (by kernel_rfl) (fun _ _ _ h => h) (Or.inl ⟨by kernel_rfl, ?_⟩) (by assumption) ?_
            rotate_left
            · (intro w hSw; (try dsimp only at hSw); go_simp; try with_reducible rfl)
            (try simp only [Act.put, List.setIfInBounds_toArray, List.set_cons_zero, List.set_cons_succ])
            refine wpAnyH_take (i := 7) (oi := ⟨some 63, _, _, _, _, _⟩) (v := ?_) rfl (by kernel_rfl) (by kernel_rfl) (by kernel_rfl) (fun _ _ _ h => h) (Or.inl ⟨by kernel_rfl, ?_⟩) (by assumption) ?_
            rotate_left
            · (intro w hSw; (try dsimp only at hSw); go_simp; try with_reducible rfl)
            (try simp only [Act.put, List.setIfInBounds_toArray, List.set_cons_zero, List.set_cons_succ])
            refine wpAnyH_take (i := 8) (oi := ⟨some 4, _, _, _, _, _⟩) (v := ?_) rfl (by kernel_rfl) (by kernel_rfl) (by kernel_rfl) (fun _ _ _ h => h) (Or.inl ⟨by kernel_rfl, ?_⟩) (by assumption) ?_
            rotate_left
            · (intro w hSw; (try dsimp only at hSw); go_simp; try with_reducible rfl)
            (try simp only [Act.put, List.setIfInBounds_toArray, List.set_cons_zero, List.set_cons_succ])
            refine wpAnyH_done (by kernel_rfl) ?_ _
            go_wp2_with fail
            go_ret
            exact RetIff.no HNO.out HB.out.drew
  · have hc0 : (xc != 0) = true := by simpa using hxc
    have HNO := Lib.hid (show ¬ SplitOk f m ⟨xu, xs, xc, ps⟩ from fun h => hxc h.core)
    clear hxc
    go_enter Tryz.func144, Tryz.ntmps144
    go_wp2_with fail
    go_ret
    exact RetIff.no HNO.out HB2.out
end Go.Proofs.YtpfpojehcjmfnaaGreat
