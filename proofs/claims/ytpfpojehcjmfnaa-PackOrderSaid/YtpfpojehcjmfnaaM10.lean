/-
  A set that is turned; ticks from one on, round: what the program answers.
  Conditions: the numbers are of their kinds.
-/
import Derived.Test.YtpfpojehcjmfnaaM09
import Derived.Test.YtpfpojehcjmfnaaM05
import Derived.Test.YtpfpojehcjmfnaaM07
import Derived.Test.YtpfpojehcjmfnaaM03

/-
  Wants that are right are few: no more than there are units.
  Conditions: none.
-/
set_option linter.unusedVariables false
namespace Go.Proofs.Ytpfpojehcjmfnaa

theorem nodup_lt : ∀ (n : Nat) (l : List Nat), l.Nodup → (∀ x ∈ l, x < n) → l.length ≤ n
  | 0, l, _, h => by
    cases l with
    | nil => exact Nat.le_refl _
    | cons x r => exact absurd (h x (by simp)) (Nat.not_lt_zero _)
  | n + 1, l, hd, h => by
    have h1 := nodup_lt n (l.erase n) (hd.erase n) (fun x hx => by
      have hm := (hd.mem_erase_iff).1 hx
      have := h x hm.2
      have := hm.1
      omega)
    rw [List.length_erase] at h1
    split at h1 <;> omega
/-- A unit's place among all. -/
def idxU (u : Int) : Nat := if u ≤ 200 then (u - 1).toNat else (u - 801).toNat
theorem idxU_lt {u : Int} (h : isU u = true) : idxU u < 240 := by
  simp [isU] at h
  unfold idxU
  split <;> omega
theorem idxU_inj {u v : Int} (hu : isU u = true) (hv : isU v = true) (h : idxU u = idxU v) : u = v := by
  simp [isU] at hu hv
  unfold idxU at h
  split at h <;> split at h <;> omega
theorem few_wants {f : Int} {l : List Sp} (h : chkT f l = 0) : l.length ≤ 240 := by
  unfold chkT at h
  by_cases hf : f < 2 ∨ 64 < f
  · rw [if_pos hf] at h; exact absurd h (by decide)
  · rw [if_neg hf] at h
    have hz := (chkL_zero l []).1 h
    have hall : ∀ (i : Nat) (y : Sp), l[i]? = some y → isU y.1 = true ∧ ∀ s ∈ l.take i, s.1 ≠ y.1 := fun i y hy => by
      obtain ⟨h1, _, _, h4⟩ := chkE_zero.1 (hz i y hy)
      refine ⟨h1, fun s hs he => ?_⟩
      rw [List.nil_append, List.any_eq_false] at h4
      exact h4 s hs (decide_eq_true he)
    have h1 : (l.map fun y => idxU y.1).length ≤ 240 := by
      refine nodup_lt 240 _ ?_ ?_
      · rw [List.Nodup, List.pairwise_iff_getElem]
        intro i j hi hj hij he
        rw [List.length_map] at hi hj
        rw [List.getElem_map, List.getElem_map] at he
        have hyi := List.getElem?_eq_getElem hi
        have hyj := List.getElem?_eq_getElem hj
        obtain ⟨u1, _⟩ := hall i _ hyi
        obtain ⟨u2, n2⟩ := hall j _ hyj
        refine n2 l[i] ?_ (idxU_inj u1 u2 he)
        rw [List.mem_take_iff_getElem]
        exact ⟨i, by omega, rfl⟩
      · intro x hx
        obtain ⟨y, hy, rfl⟩ := List.mem_map.1 hx
        obtain ⟨i, hi⟩ := List.getElem?_of_mem hy
        exact idxU_lt (hall i y hi).1
    rwa [List.length_map] at h1
/-- Numbers of their kinds, pieces that are few: a plan as tables make it. -/
structure WideL (l : List Pl) : Prop where
  len : l.length ≤ 1200000
  ok : ∀ x ∈ l, PlOk x ∧ x.ps.length ≤ 1000
theorem LightL.wide {l : List Pl} (h : LightL l) : WideL l := ⟨by have := h.len; omega, h.ok⟩
theorem WideL.light {l : List Pl} (h : WideL l) {f : Int} (hc : chkT f (wantsT l) = 0) : LightL l :=
  ⟨by have := few_wants hc; rw [wantsT_length] at this; omega, h.ok⟩
end Go.Proofs.Ytpfpojehcjmfnaa

/-
  First fit by falling sizes over lists of places: the first core with room, one unit more in a right plan, all of them one behind the other, and when it is sure that nobody is left over.
  Conditions: none.
-/
set_option linter.unusedVariables false
namespace Go.Proofs.Ytpfpojehcjmfnaa

/-! ### The first core that has room -/
def roomB (f : Int) (m : Nat) (l : List Pl) (s : Int) (c : Nat) : Bool := m.testBit c && decide (s ≤ roomN f m l (c : Int))
def firstR (f : Int) (m : Nat) (l : List Pl) (s : Int) : Option Nat := (List.range 16).find? (roomB f m l s)
theorem firstR_none {f : Int} {m : Nat} {l : List Pl} {s : Int} : firstR f m l s = none ↔ ∀ j, j < 16 → roomB f m l s j = false := by
  unfold firstR
  rw [List.find?_range_eq_none]
  simp
theorem firstR_some {f : Int} {m : Nat} {l : List Pl} {s : Int} {c : Nat} : firstR f m l s = some c ↔ c < 16 ∧ roomB f m l s c = true ∧ ∀ j, j < c → roomB f m l s j = false := by
  unfold firstR
  rw [List.find?_range_eq_some]
  simp only [List.mem_range, Bool.not_eq_true']
  exact ⟨fun h => ⟨h.2.1, h.1, h.2.2⟩, fun h => ⟨h.2.1, h.1, h.2.2⟩⟩
theorem roomB_iff {f : Int} {m : Nat} {l : List Pl} {s : Int} {c : Nat} : roomB f m l s c = true ↔ m.testBit c = true ∧ s ≤ roomN f m l (c : Int) := by
  unfold roomB
  rw [Bool.and_eq_true, decide_eq_true_iff]
theorem roomB_no {f : Int} {m : Nat} {l : List Pl} {s : Int} {c : Nat} : roomB f m l s c = false ↔ (m.testBit c = true → roomN f m l (c : Int) < s) := by
  rw [← Bool.not_eq_true, roomB_iff]
  constructor
  · intro h hb
    have : ¬ s ≤ roomN f m l (c : Int) := fun e => h ⟨hb, e⟩
    omega
  · intro h hb
    have := h hb.1
    omega

/-! ### A unit's place among rising ones -/
def Asc (l : List Pl) : Prop := l.Pairwise fun x y => x.u < y.u
theorem Right.pairs {f : Int} {m : Nat} {l : List Pl} (h : Right f m l) : Asc l := by
  unfold Asc
  rw [List.pairwise_iff_getElem]
  intro i j hi hj hij
  exact h.rise hij (List.getElem?_eq_getElem hi) (List.getElem?_eq_getElem hj)
theorem Asc.next {l : List Pl} (h : Asc l) {i : Nat} {x y : Pl} (hx : l[i]? = some x) (hy : l[i + 1]? = some y) : x.u < y.u := by
  obtain ⟨h1, rfl⟩ := List.getElem?_eq_some_iff.1 hx
  obtain ⟨h2, rfl⟩ := List.getElem?_eq_some_iff.1 hy
  exact List.pairwise_iff_getElem.1 h i (i + 1) h1 h2 (Nat.lt_succ_self i)
def posU (d : List Pl) (u : Int) : Nat := d.countP fun y => decide (y.u < u)
theorem posU_at (u : Int) : ∀ (d : List Pl), Asc d → PutAt d u (posU d u)
  | [], _ => ⟨Nat.le_refl _, fun j y h => by simp at h⟩
  | x :: d, h => by
    obtain ⟨h1, h2⟩ := List.pairwise_cons.1 h
    have ih := posU_at u d h2
    refine ⟨List.countP_le_length, fun j y hy => ?_⟩
    unfold posU
    rw [List.countP_cons]
    by_cases hx : x.u < u
    · rw [if_pos (decide_eq_true hx)]
      rcases j with _ | j
      · rw [List.getElem?_cons_zero] at hy
        rw [← Option.some.inj hy]
        omega
      · rw [List.getElem?_cons_succ] at hy
        have := ih.less j y hy
        unfold posU at this
        omega
    · rw [if_neg (by simpa using hx)]
      have h0 : (d.countP fun y => decide (y.u < u)) = 0 := by
        rw [List.countP_eq_zero]
        intro z hz
        have := h1 z hz
        simp
        omega
      rw [h0]
      rcases j with _ | j
      · rw [List.getElem?_cons_zero] at hy
        rw [← Option.some.inj hy]
        omega
      · rw [List.getElem?_cons_succ] at hy
        have := h1 y (List.mem_of_getElem? hy)
        omega
theorem drop_absent {l : List Pl} {u : Int} (h : ∀ x ∈ l, x.u ≠ u) : dropT l u = l := List.filter_eq_self.2 fun x hx => by simp [h x hx]
theorem dropT_asc {l : List Pl} (h : Asc l) (u : Int) : Asc (dropT l u) := h.filter _
/-- A plan's places with one more. -/
def addU (l : List Pl) (x : Pl) : List Pl := putPl (dropT l x.u) x (posU (dropT l x.u) x.u)
theorem addU_eq {l : List Pl} {x : Pl} (h : ∀ y ∈ l, y.u ≠ x.u) : addU l x = putPl l x (posU l x.u) := by
  unfold addU
  rw [drop_absent h]
theorem putPl_length {d : List Pl} {x : Pl} {k : Nat} : (putPl d x k).length = d.length + 1 := by
  unfold putPl
  rw [List.length_append, List.length_append, List.length_take, List.length_drop, List.length_singleton]
  omega
theorem putPl_mem {d : List Pl} {x y : Pl} {k : Nat} : y ∈ putPl d x k ↔ y = x ∨ y ∈ d := by
  unfold putPl
  rw [List.mem_append, List.mem_append, List.mem_singleton]
  conv => rhs; rw [← List.take_append_drop k d, List.mem_append]
  constructor
  · rintro ((h | h) | h)
    · exact .inr (.inl h)
    · exact .inl h
    · exact .inr (.inr h)
  · rintro (h | h | h)
    · exact .inl (.inr h)
    · exact .inl (.inl h)
    · exact .inr h
/-- What is counted over all places, with one more. -/
theorem put_sum (F : List Pl → Int) (hF : ∀ a b, F (a ++ b) = F a + F b) (d : List Pl) (x : Pl) (k : Nat) : F (putPl d x k) = F d + F [x] := by
  unfold putPl
  rw [hF, hF]
  conv => rhs; rw [← List.take_append_drop k d, hF]
  omega
theorem put_pcs {d : List Pl} {x : Pl} (hx : x.ps = []) (k : Nat) : pcsOf (putPl d x k) = pcsOf d := by
  unfold putPl
  have e : ∀ a b : List Pl, pcsOf (a ++ b) = pcsOf a ++ pcsOf b := fun a b => by simp [pcsOf]
  rw [e, e]
  conv => rhs; rw [← List.take_append_drop k d, e]
  rw [show pcsOf [x] = [] by simp [pcsOf, hx], List.append_nil]
theorem wholes_append (a b : List Pl) (c : Int) : wholesT (a ++ b) c = wholesT a c ++ wholesT b c := by unfold wholesT; rw [List.filter_append, List.map_append]
theorem put_load {d : List Pl} {x : Pl} (hx : x.ps = []) (k : Nat) (c : Int) : loadN (putPl d x k) c = loadN d c + (if x.c = c then x.s else 0) := by
  unfold loadN
  rw [put_pcs hx, put_sum (fun l => sumS (wholesT l c)) (fun a b => by simp only [wholes_append, sumS_append])]
  have e : sumS (wholesT [x] c) = if x.c = c then x.s else 0 := by
    rw [wholesT_cons]
    unfold wholeB
    rw [hx]
    by_cases h : x.c = c
    · simp [h, wholesT, sumS]
    · simp [h, wholesT, sumS]
  omega
theorem put_room {f : Int} {m : Nat} {d : List Pl} {x : Pl} (hx : x.ps = []) (k : Nat) (c : Nat) : roomN f m (putPl d x k) (c : Int) = if hasC m (c : Int) = true then f - loadN d (c : Int) - (if x.c = (c : Int) then x.s else 0) else 0 := by
  unfold roomN
  rw [put_load hx]
  split
  · omega
  · rfl
theorem put_asc {d : List Pl} {x : Pl} (h : Asc d) (hn : ∀ y ∈ d, y.u ≠ x.u) : Asc (putPl d x (posU d x.u)) := by
  have hp := posU_at x.u d h
  unfold putPl Asc
  rw [List.pairwise_append, List.pairwise_append]
  have ht : ∀ y ∈ d.take (posU d x.u), y.u < x.u := fun y hy => by
    obtain ⟨j, hj⟩ := List.mem_iff_getElem?.1 hy
    rw [List.getElem?_take] at hj
    split at hj
    · exact (hp.less j y hj).2 (by assumption)
    · cases hj
  have hd : ∀ y ∈ d.drop (posU d x.u), x.u < y.u := fun y hy => by
    obtain ⟨j, hj⟩ := List.mem_iff_getElem?.1 hy
    rw [List.getElem?_drop] at hj
    have h1 := hp.less _ y hj
    have h2 := hn y (List.mem_of_getElem? hj)
    omega
  have hs : (d.take (posU d x.u) ++ d.drop (posU d x.u)).Pairwise fun x y => x.u < y.u := by rw [List.take_append_drop]; exact h
  obtain ⟨s1, s2, s3⟩ := List.pairwise_append.1 hs
  refine ⟨⟨s1, List.pairwise_singleton _ _, fun a ha b hb => ?_⟩, s2, fun a ha b hb => ?_⟩
  · rw [List.mem_singleton.1 hb]
    exact ht a ha
  · rcases List.mem_append.1 ha with ha | ha
    · exact s3 a ha b hb
    · rw [List.mem_singleton.1 ha]
      exact hd b hb
/-- A unit that is placed whole where there is room. -/
theorem Right.put {f : Int} {m : Nat} {l : List Pl} (h : Right f m l) {u s : Int} {c : Nat} (hn : ∀ y ∈ l, y.u ≠ u) (hu : isU u = true) (h1 : 1 ≤ s) (h2 : s ≤ f) (hc : c < 16) (hr : roomB f m l s c = true) : Right f m (addU l ⟨u, s, (c : Int), []⟩) := by
  have hn' : ∀ y ∈ l, y.u ≠ (⟨u, s, (c : Int), []⟩ : Pl).u := hn
  obtain ⟨hb, hs⟩ := roomB_iff.1 hr
  rw [addU_eq hn']
  have ha := put_asc h.pairs hn'
  refine ⟨h.f2, h.f64, h.m0, h.m16, fun y hy => ?_, fun i x y hx hy => ha.next hx hy, ?_, ?_, fun c' hc' hb' => ?_⟩
  · rcases putPl_mem.1 hy with rfl | hy
    · exact ⟨hu, h1, h2, fun _ => by show hasC m (c : Int) = true; rw [hasC_nat hc]; exact hb, fun e => absurd rfl e⟩
    · exact h.place y hy
  · rw [put_pcs rfl]
    exact h.apart
  · have e : (splitsN (putPl l ⟨u, s, (c : Int), []⟩ (posU l u)) : Int) = (splitsN l : Int) + (splitsN [⟨u, s, (c : Int), []⟩] : Int) := put_sum (fun l => (splitsN l : Int)) (fun a b => by show ((splitsN (a ++ b) : Nat) : Int) = _; unfold splitsN; rw [List.countP_append]; omega) _ _ _
    have e2 : splitsN [⟨u, s, (c : Int), []⟩] = 0 := rfl
    have := h.few
    show splitsN (putPl l ⟨u, s, (c : Int), []⟩ (posU l u)) < coresN m
    omega
  · rw [put_load rfl]
    have h3 := h.load c' hc' hb'
    by_cases e : (c : Int) = (c' : Int)
    · have : c = c' := by omega
      subst this
      unfold roomN at hs
      rw [hasC_nat hc', hb', if_pos rfl] at hs
      rw [if_pos rfl]
      show _ + s ≤ f
      omega
    · rw [if_neg e]
      omega
theorem put_roomB {f : Int} {m : Nat} {l : List Pl} {u s t : Int} {c c' : Nat} (hn : ∀ y ∈ l, y.u ≠ u) (h1 : 0 ≤ s) (h : roomB f m l t c' = false) : roomB f m (addU l ⟨u, s, (c : Int), []⟩) t c' = false := by
  have hn' : ∀ y ∈ l, y.u ≠ (⟨u, s, (c : Int), []⟩ : Pl).u := hn
  rw [roomB_no] at h ⊢
  intro hb
  have h2 := h hb
  rw [addU_eq hn', put_room rfl]
  unfold roomN at h2
  split
  · rw [if_pos (by assumption)] at h2
    split
    · show _ - s < t
      omega
    · omega
  · rw [if_neg (by assumption)] at h2
    exact h2

/-! ### Wants, one behind the other -/
def fitS (f : Int) (m : Nat) (st : List Pl × List Sp) (w : Sp) : List Pl × List Sp :=
  match firstR f m st.1 w.2 with
  | some c => (addU st.1 ⟨w.1, w.2, (c : Int), []⟩, st.2)
  | none => (st.1, st.2 ++ [w])
def fitT (f : Int) (m : Nat) (l : List Pl) (ws : List Sp) : List Pl × List Sp := ws.foldl (fitS f m) (l, [])
theorem fitT_snoc (f : Int) (m : Nat) (l : List Pl) (ws : List Sp) (w : Sp) : fitT f m l (ws ++ [w]) = fitS f m (fitT f m l ws) w := by unfold fitT; rw [List.foldl_append]; rfl
theorem fitT_take {f : Int} {m : Nat} {l : List Pl} {ws : List Sp} {k : Nat} {w : Sp} (h : ws[k]? = some w) : fitT f m l (ws.take (k + 1)) = fitS f m (fitT f m l (ws.take k)) w := by
  rw [List.take_add_one, h, Option.toList_some, fitT_snoc]
theorem fitS_some {f : Int} {m : Nat} {st : List Pl × List Sp} {w : Sp} {c : Nat} (h : firstR f m st.1 w.2 = some c) : fitS f m st w = (addU st.1 ⟨w.1, w.2, (c : Int), []⟩, st.2) := by unfold fitS; rw [h]
theorem fitS_none {f : Int} {m : Nat} {st : List Pl × List Sp} {w : Sp} (h : firstR f m st.1 w.2 = none) : fitS f m st w = (st.1, st.2 ++ [w]) := by unfold fitS; rw [h]
/-- Wants that may be placed, of units of their own. -/
structure WOk (f : Int) (ws : List Sp) : Prop where
  all : ∀ w ∈ ws, isU w.1 = true ∧ 1 ≤ w.2 ∧ w.2 ≤ f
  two : (ws.map Prod.fst).Nodup
theorem WOk.perm {f : Int} {a b : List Sp} (h : WOk f a) (hp : b.Perm a) : WOk f b := ⟨fun w hw => h.all w (hp.mem_iff.1 hw), (hp.map _).nodup_iff.2 h.two⟩
theorem WOk.of_chk {f : Int} {ws : List Sp} (h : chkT f ws = 0) : (2 ≤ f ∧ f ≤ 64) ∧ WOk f ws := by
  unfold chkT at h
  by_cases hf : f < 2 ∨ 64 < f
  · rw [if_pos hf] at h; exact absurd h (by decide)
  · rw [if_neg hf] at h
    have hz := (chkL_zero ws []).1 h
    refine ⟨by omega, fun w hw => ?_, ?_⟩
    · obtain ⟨i, hi⟩ := List.mem_iff_getElem?.1 hw
      obtain ⟨h1, h2, h3, _⟩ := chkE_zero.1 (hz i w hi)
      exact ⟨h1, h2, h3⟩
    · rw [List.Nodup, List.pairwise_iff_getElem]
      intro i j hi hj hij he
      rw [List.length_map] at hi hj
      rw [List.getElem_map, List.getElem_map] at he
      obtain ⟨_, _, _, h4⟩ := chkE_zero.1 (hz j _ (List.getElem?_eq_getElem hj))
      rw [List.nil_append, List.any_eq_false] at h4
      exact h4 ws[i] (by rw [List.mem_take_iff_getElem]; exact ⟨i, by omega, rfl⟩) (decide_eq_true he)
theorem WOk.front {f : Int} {a b : List Sp} (h : WOk f (a ++ b)) : WOk f a := ⟨fun w hw => h.all w (List.mem_append_left _ hw), by
  have := h.two
  rw [List.map_append] at this
  exact (List.nodup_append.1 this).1⟩
theorem WOk.last {f : Int} {a : List Sp} {w : Sp} (h : WOk f (a ++ [w])) : ∀ v ∈ a, v.1 ≠ w.1 := fun v hv e => by
  have := h.two
  rw [List.map_append] at this
  exact (List.nodup_append.1 this).2.2 v.1 (List.mem_map_of_mem hv) w.1 (by simp) e
/-- What holds behind some wants. -/
structure FitInv (f : Int) (m : Nat) (l0 : List Pl) (ws : List Sp) (st : List Pl × List Sp) : Prop where
  right : Right f m st.1
  units : ∀ x ∈ st.1, x ∈ l0 ∨ ∃ w ∈ ws, w.1 = x.u
  keep : ∀ x ∈ l0, x ∈ st.1
  len : st.1.length + st.2.length = l0.length + ws.length
  tight : ∀ w ∈ st.2, firstR f m st.1 w.2 = none
  ok : (∀ x ∈ l0, PlOk x ∧ x.ps.length ≤ 1000) → ∀ x ∈ st.1, PlOk x ∧ x.ps.length ≤ 1000
  sum : sumS (wantsT st.1) + sumS st.2 = sumS (wantsT l0) + sumS ws
  mem : ∀ w ∈ st.2, w ∈ ws
theorem isU_range {u : Int} (h : isU u = true) : 1 ≤ u ∧ u ≤ 1040 := by
  simp [isU] at h
  omega
theorem FitInv.next {f : Int} {m : Nat} {l0 : List Pl} {ws : List Sp} {st : List Pl × List Sp} {w : Sp} (h : FitInv f m l0 ws st) (hw : WOk f (ws ++ [w])) (h0 : ∀ x ∈ l0, x.u ≠ w.1) : FitInv f m l0 (ws ++ [w]) (fitS f m st w) := by
  obtain ⟨hu, h1, h2⟩ := hw.all w (by simp)
  have hn : ∀ y ∈ st.1, y.u ≠ w.1 := fun y hy => by
    rcases h.units y hy with hl | ⟨v, hv, he⟩
    · exact h0 y hl
    · rw [← he]
      exact hw.last v hv
  cases hf : firstR f m st.1 w.2 with
  | none =>
    rw [fitS_none hf]
    refine ⟨h.right, fun x hx => ?_, h.keep, ?_, fun v hv => ?_, h.ok, ?_, fun v hv => ?_⟩
    · rcases h.units x hx with hl | ⟨v, hv, he⟩
      · exact .inl hl
      · exact .inr ⟨v, List.mem_append_left _ hv, he⟩
    · have := h.len
      simp only [List.length_append, List.length_singleton]
      omega
    · rcases List.mem_append.1 hv with hv | hv
      · exact h.tight v hv
      · rw [List.mem_singleton.1 hv]
        exact hf
    · have := h.sum
      simp only [sumS_append]
      omega
    · rcases List.mem_append.1 hv with hv | hv
      · exact List.mem_append_left _ (h.mem v hv)
      · exact List.mem_append_right _ hv
  | some c =>
    rw [fitS_some hf]
    obtain ⟨hc, hb, _⟩ := firstR_some.1 hf
    have hn' : ∀ y ∈ st.1, y.u ≠ (⟨w.1, w.2, (c : Int), []⟩ : Pl).u := hn
    have hR := h.right.put hn hu h1 h2 hc hb
    refine ⟨hR, fun x hx => ?_, fun x hx => ?_, ?_, fun v hv => ?_, fun ho x hx => ?_, ?_, fun v hv => List.mem_append_left _ (h.mem v hv)⟩
    · have hx' : x ∈ addU st.1 ⟨w.1, w.2, (c : Int), []⟩ := hx
      rw [addU_eq hn'] at hx'
      rcases putPl_mem.1 hx' with rfl | hl
      · exact .inr ⟨w, by simp, rfl⟩
      · rcases h.units x hl with hl | ⟨v, hv, he⟩
        · exact .inl hl
        · exact .inr ⟨v, List.mem_append_left _ hv, he⟩
    · show x ∈ addU st.1 ⟨w.1, w.2, (c : Int), []⟩
      rw [addU_eq hn']
      exact putPl_mem.2 (.inr (h.keep x hx))
    · show (addU st.1 ⟨w.1, w.2, (c : Int), []⟩).length + st.2.length = _
      rw [addU_eq hn', putPl_length, List.length_append, List.length_singleton]
      have := h.len
      omega
    · have := h.tight v hv
      rw [firstR_none] at this ⊢
      exact fun j hj => put_roomB hn (by omega) (this j hj)
    · have hx' : x ∈ addU st.1 ⟨w.1, w.2, (c : Int), []⟩ := hx
      rw [addU_eq hn'] at hx'
      rcases putPl_mem.1 hx' with rfl | hl
      · have hf64 := h.right.f64
        have hr := isU_range hu
        refine ⟨⟨?_, ?_, ?_, fun y hy => by cases hy⟩, by simp⟩
        · show Int64 w.1
          unfold Int64; omega
        · show Int64 w.2
          unfold Int64; omega
        · show Int64 (c : Int)
          unfold Int64; omega
      · exact h.ok ho x hl
    · show sumS (wantsT (addU st.1 ⟨w.1, w.2, (c : Int), []⟩)) + sumS st.2 = _
      rw [addU_eq hn', put_sum (fun l => sumS (wantsT l)) (fun a b => by show sumS (wantsT (a ++ b)) = _; unfold wantsT; rw [List.map_append, sumS_append])]
      have := h.sum
      rw [sumS_append]
      have e1 : sumS (wantsT [⟨w.1, w.2, (c : Int), []⟩]) = w.2 := by simp [wantsT, sumS]
      have e2 : sumS [w] = w.2 := by simp [sumS]
      omega
theorem fit_inv {f : Int} {m : Nat} {l0 : List Pl} (hr : Right f m l0) {ws : List Sp} (hw : WOk f ws) (h0 : ∀ x ∈ l0, ∀ w ∈ ws, x.u ≠ w.1) : ∀ k : Nat, k ≤ ws.length → FitInv f m l0 (ws.take k) (fitT f m l0 (ws.take k))
  | 0, _ => ⟨hr, fun x hx => .inl hx, fun x hx => hx, rfl, (fun w hw => by cases hw), fun ho => ho, rfl, (fun w hw => by cases hw)⟩
  | k + 1, hk => by
    have ih := fit_inv hr hw h0 k (by omega)
    have hx : ws[k]? = some ws[k] := List.getElem?_eq_getElem (by omega)
    rw [fitT_take hx, List.take_add_one, hx, Option.toList_some]
    have hwk : WOk f (ws.take k ++ [ws[k]]) := by
      have e : ws.take (k + 1) = ws.take k ++ [ws[k]] := by rw [List.take_add_one, hx, Option.toList_some]
      rw [← e]
      exact WOk.front (b := ws.drop (k + 1)) (by rw [List.take_append_drop]; exact hw)
    exact ih.next hwk fun x hx' => h0 x hx' ws[k] (List.getElem_mem (by omega))
theorem fit_all {f : Int} {m : Nat} {l0 : List Pl} (hr : Right f m l0) {ws : List Sp} (hw : WOk f ws) (h0 : ∀ x ∈ l0, ∀ w ∈ ws, x.u ≠ w.1) : FitInv f m l0 ws (fitT f m l0 ws) := by
  have := fit_inv hr hw h0 ws.length (Nat.le_refl _)
  rwa [List.take_length] at this
/-- Of units of their own, Find finds each. -/
theorem Right.found {f : Int} {m : Nat} {l : List Pl} (h : Right f m l) {x : Pl} (hx : x ∈ l) : findU l x.u = some x := by
  unfold findU
  have hne : (l.find? fun y => decide (y.u = x.u)) ≠ none := by
    rw [Ne, List.find?_eq_none]
    intro e
    exact e x hx (decide_eq_true rfl)
  obtain ⟨y, hy⟩ := Option.ne_none_iff_exists'.1 hne
  rw [hy]
  have hu : y.u = x.u := by simpa using List.find?_some hy
  have hm := List.mem_of_find?_eq_some hy
  obtain ⟨i, hi⟩ := List.mem_iff_getElem?.1 hm
  obtain ⟨j, hj⟩ := List.mem_iff_getElem?.1 hx
  rcases Nat.lt_trichotomy i j with hlt | rfl | hlt
  · have := h.rise hlt hi hj; omega
  · rw [hi] at hj; exact hj
  · have := h.rise hlt hj hi; omega

/-! ### Why wants are not placed -/
def anyB (l : List Pl) (ws : List Sp) : Bool := ws.any fun w => (findU l w.1).isSome
def Why (f : Int) (m : Nat) (l : List Pl) (ws : List Sp) (E : Int) : Prop :=
  (¬ Right f m l ∧ E = 30) ∨ (Right f m l ∧ chkT f ws ≠ 0 ∧ E = chkT f ws) ∨ (Right f m l ∧ chkT f ws = 0 ∧ anyB l ws = true ∧ E = 11) ∨ (Right f m l ∧ chkT f ws = 0 ∧ anyB l ws = false ∧ E = 0)
theorem Why.unique {f : Int} {m : Nat} {l : List Pl} {ws : List Sp} {E E' : Int} (h : Why f m l ws E) (h' : Why f m l ws E') : E = E' := by
  rcases h with ⟨h1, rfl⟩ | ⟨h1, h2, rfl⟩ | ⟨h1, h2, h3, rfl⟩ | ⟨h1, h2, h3, rfl⟩ <;> rcases h' with ⟨k1, rfl⟩ | ⟨k1, k2, rfl⟩ | ⟨k1, k2, k3, rfl⟩ | ⟨k1, k2, k3, rfl⟩ <;> simp_all
structure Goes (f : Int) (m : Nat) (l : List Pl) (ws : List Sp) : Prop where
  right : Right f m l
  chk : chkT f ws = 0
  none : anyB l ws = false
theorem Why.zero {f : Int} {m : Nat} {l : List Pl} {ws : List Sp} (h : Why f m l ws 0) : Goes f m l ws := by
  rcases h with ⟨h1, h0⟩ | ⟨h1, h2, h0⟩ | ⟨h1, h2, h3, h0⟩ | ⟨h1, h2, h3, _⟩
  · exact absurd h0 (by decide)
  · exact absurd h0.symm h2
  · exact absurd h0 (by decide)
  · exact ⟨h1, h2, h3⟩
theorem Goes.why {f : Int} {m : Nat} {l : List Pl} {ws : List Sp} (h : Goes f m l ws) : Why f m l ws 0 := .inr (.inr (.inr ⟨h.right, h.chk, h.none, rfl⟩))
theorem anyB_no {l : List Pl} {ws : List Sp} (h : anyB l ws = false) : ∀ x ∈ l, ∀ w ∈ ws, x.u ≠ w.1 := fun x hx w hw e => by
  unfold anyB at h
  rw [List.any_eq_false] at h
  refine h w hw ?_
  unfold findU
  rw [List.find?_isSome]
  exact ⟨x, hx, decide_eq_true e⟩
theorem Goes.inv {f : Int} {m : Nat} {l : List Pl} {ws : List Sp} (h : Goes f m l ws) {k : Nat} (hk : k ≤ ws.length) : FitInv f m l ((sortT ws).take k) (fitT f m l ((sortT ws).take k)) :=
  fit_inv h.right ((WOk.of_chk h.chk).2.perm (sortT_perm ws)) (fun x hx w hw => anyB_no h.none x hx w ((sortT_perm ws).mem_iff.1 hw)) k (by rw [sortT_length]; exact hk)
theorem Goes.all {f : Int} {m : Nat} {l : List Pl} {ws : List Sp} (h : Goes f m l ws) : FitInv f m l (sortT ws) (fitT f m l (sortT ws)) := by
  have := h.inv (k := ws.length) (Nat.le_refl _)
  rwa [show (sortT ws).take ws.length = sortT ws by rw [← sortT_length ws, List.take_length]] at this

/-! ### When it is sure -/
def maxT : List Sp → Int
  | [] => 0
  | w :: r => max w.2 (maxT r)
theorem maxT_snoc : ∀ (l : List Sp) (w : Sp), 1 ≤ w.2 → maxT (l ++ [w]) = max (maxT l) w.2
  | [], w, h => by simp [maxT]; omega
  | x :: l, w, h => by rw [List.cons_append, maxT, maxT, maxT_snoc l w h]; omega
theorem maxT_le : ∀ (l : List Sp), ∀ w ∈ l, w.2 ≤ maxT l
  | [], w, h => by cases h
  | x :: l, w, h => by
    rw [maxT]
    rcases List.mem_cons.1 h with rfl | h
    · omega
    · have := maxT_le l w h; omega
theorem maxT_nonneg : ∀ l : List Sp, 0 ≤ maxT l
  | [] => Int.le_refl _
  | x :: l => by have := maxT_nonneg l; rw [maxT]; omega
theorem maxT_bound {B : Int} (hB : 0 ≤ B) : ∀ l : List Sp, (∀ w ∈ l, w.2 ≤ B) → maxT l ≤ B
  | [], _ => hB
  | x :: l, h => by
    have h1 := maxT_bound hB l fun w hw => h w (by simp [hw])
    have h2 := h x (by simp)
    rw [maxT]; omega
def sureT (f c : Int) (ws : List Sp) : Bool := decide (chkT f ws = 0) && (decide (1 ≤ c ∧ c ≤ 16) && decide (sumS ws + (c - 1) * maxT ws < c * f + c))
theorem overC_le {m : Nat} {g h : Nat → Int} : ∀ {k : Nat}, (∀ c, c < k → m.testBit c = true → g c ≤ h c) → overC m g k ≤ overC m h k
  | 0, _ => Int.le_refl _
  | k + 1, e => by
    rw [overC, overC]
    have h1 := overC_le (k := k) fun c hc hb => e c (by omega) hb
    by_cases hb : m.testBit k = true
    · rw [if_pos hb, if_pos hb]
      have := e k (by omega) hb
      omega
    · rw [if_neg hb, if_neg hb]
      omega
theorem sum_mem : ∀ {l : List Sp} {w : Sp}, (∀ v ∈ l, 0 ≤ v.2) → w ∈ l → w.2 ≤ sumS l
  | [], w, _, h => by cases h
  | x :: l, w, h0, h => by
    have hs : ∀ l : List Sp, (∀ v ∈ l, 0 ≤ v.2) → 0 ≤ sumS l := fun l => by
      induction l with
      | nil => intro _; exact Int.le_refl _
      | cons y l ih =>
        intro h0
        have := ih fun v hv => h0 v (by simp [hv])
        have := h0 y (by simp)
        rw [sumS]; omega
    rw [sumS]
    rcases List.mem_cons.1 h with rfl | h
    · have := hs l fun v hv => h0 v (by simp [hv])
      omega
    · have := sum_mem (fun v hv => h0 v (by simp [hv])) h
      have := h0 x (by simp)
      omega
/-- Where a share is left over there is little room on each core. -/
theorem free_tight {f : Int} {m : Nat} {l : List Pl} {s : Int} (h : firstR f m l s = none) : freeT f m l 16 ≤ (s - 1) * (coresN m : Int) := by
  rw [free_over f m l 16 (Nat.le_refl _)]
  unfold coresN
  rw [← overC_const]
  refine overC_le fun c hc hb => ?_
  have h1 := roomB_no.1 (firstR_none.1 h c hc) hb
  unfold roomN at h1
  rw [hasC_nat hc, if_pos hb] at h1
  omega
/-- If it is sure, nobody is left over. -/
theorem sure_none {f c : Int} {m : Nat} {ws : List Sp} (hs : sureT f c ws = true) (hm : (coresN m : Int) = c) (hr : Right f m []) : (fitT f m [] (sortT ws)).2 = [] := by
  unfold sureT at hs
  rw [Bool.and_eq_true, Bool.and_eq_true, decide_eq_true_iff, decide_eq_true_iff, decide_eq_true_iff] at hs
  obtain ⟨hc0, ⟨hc1, hc16⟩, hlt⟩ := hs
  have hg : Goes f m [] ws := ⟨hr, hc0, by unfold anyB; rw [List.any_eq_false]; intro w _; simp [findU]⟩
  have hI := hg.all
  have hW := (WOk.of_chk hc0).2
  refine List.eq_nil_iff_forall_not_mem.2 fun w hw => ?_
  have ht := free_tight (hI.tight w hw)
  have hall := hI.right.all
  have hsum := hI.sum
  have hmem : w ∈ ws := (sortT_perm ws).mem_iff.1 (hI.mem w hw)
  have hws : sumS (sortT ws) = sumS ws := by
    have key : ∀ {a b : List Sp}, a.Perm b → sumS a = sumS b := fun h => by
      induction h with
      | nil => rfl
      | cons x _ ih => rw [sumS, sumS, ih]
      | swap x y l => rw [sumS, sumS, sumS, sumS]; omega
      | trans _ _ h1 h2 => exact h1.trans h2
    exact key (sortT_perm ws)
  have h2 : w.2 ≤ sumS (fitT f m [] (sortT ws)).2 := sum_mem (fun v hv => by
    have := hW.all v ((sortT_perm ws).mem_iff.1 (hI.mem v hv))
    omega) hw
  have h3 : w.2 ≤ maxT ws := maxT_le ws w hmem
  have h4 : (c - 1) * w.2 ≤ (c - 1) * maxT ws := Int.mul_le_mul_of_nonneg_left h3 (by omega)
  have e0 : sumS (wantsT []) = 0 := rfl
  rw [hm] at ht hall
  rw [e0, hws] at hsum
  have e1 : (w.2 - 1) * c = c * w.2 - c := by rw [Int.sub_mul, Int.mul_comm]; omega
  have e2 : (c - 1) * w.2 = c * w.2 - w.2 := by rw [Int.sub_mul]; omega
  have e3 : f * c = c * f := Int.mul_comm _ _
  rw [e1] at ht
  rw [e3] at hall
  omega
end Go.Proofs.Ytpfpojehcjmfnaa

/-
  A set that is turned; ticks from one on, round: what the program answers.
  Conditions: the numbers are of their kinds.
-/
set_option linter.unusedVariables false
namespace Go.Proofs.Ytpfpojehcjmfnaa
open Go.RowKit

theorem modulo_any (n : Int) (f : Nat) (w : World) (h0 : 0 < f) (hf : f ≤ 64) : Calls Try.prog 88 #[.int .i64 n, .int .i64 f] w (Ret (.int .i64 (modN n f)) w) := by
  have hfz : ((f : Int) != 0) = true := by simp; omega
  have hm := Lib.hid (modulo_word n f h0 hf)
  go_enter Try.func88, Try.ntmps88
  go_wp2
  go_ret
  exact ⟨ret_int hm.out, rfl⟩

/-- Where a tick comes from. -/
def srcN (f l j : Nat) : Nat := if l ≤ j then j - l else j + f - l
def turnN (f m l : Nat) : Nat := setP (fun j => decide (j < f) && m.testBit (srcN f l j))

theorem turn_zero (m l : Nat) : turnN 0 m l = 0 := setP_zero (fun j _ => by simp)

theorem turn_word (f m l d : Nat) (hm : m < 18446744073709551616) (hf : f ≤ 64) (hl : l < f) (hd : l + d = f) :
    ((m &&& allN f) * 2 ^ l % 18446744073709551616 ||| (m &&& allN f) / 2 ^ d) &&& allN f = turnN f m l := by
  have hb : (((m &&& allN f) * 2 ^ l % 18446744073709551616 ||| (m &&& allN f) / 2 ^ d) &&& allN f) < 18446744073709551616 := Nat.lt_of_le_of_lt Nat.and_le_right (allN_lt hf)
  refine eq_setP hb (fun j hj => ?_)
  have e : ∀ x, x % 18446744073709551616 = x % 2 ^ 64 := fun x => by rw [two64]
  rw [Nat.testBit_and, Nat.testBit_or, e, Nat.testBit_mod_two_pow, Nat.testBit_mul_two_pow, Nat.testBit_div_two_pow, Nat.testBit_and, Nat.testBit_and, allN_bit, allN_bit, allN_bit]
  unfold srcN
  by_cases h1 : j < f
  · by_cases h2 : l ≤ j
    · have h3 : ¬ j + d < f := by omega
      have h4 : j - l < f := by omega
      simp [h1, h2, h3, h4, hj]
    · have h3 : j + d < f := by omega
      have h5 : j + f - l = j + d := by omega
      simp [h1, h2, h3, hj, h5]
  · simp [h1]

theorem shl_nat (m l : Nat) : IntKind.u64.wrap ((m : Int) * 2 ^ l) = ((m * 2 ^ l % 18446744073709551616 : Nat) : Int) := by
  rw [show ((m : Int) * 2 ^ l) = ((m * 2 ^ l : Nat) : Int) by simp]
  generalize m * 2 ^ l = x
  rw [IntKind.wrap_u64]
  omega
theorem shr_nat (m d : Nat) : ((m : Int) / 2 ^ d) = ((m / 2 ^ d : Nat) : Int) := by simp
theorem turn_int (f m1 l d al r : Nat) (hm1 : m1 < 18446744073709551616) (ha : al < 18446744073709551616) (h : (m1 * 2 ^ l % 18446744073709551616 ||| m1 / 2 ^ d) &&& al = r) :
    bits BinOp.and IntKind.u64 (bits BinOp.or IntKind.u64 (IntKind.u64.wrap ((m1 : Int) * 2 ^ l)) ((m1 : Int) / 2 ^ d)) (al : Int) = (r : Int) := by
  have h1 : m1 * 2 ^ l % 18446744073709551616 < 18446744073709551616 := Nat.mod_lt _ (by decide)
  have h2 : m1 / 2 ^ d < 18446744073709551616 := Nat.lt_of_le_of_lt (Nat.div_le_self _ _) hm1
  have h3 : (m1 * 2 ^ l % 18446744073709551616 ||| m1 / 2 ^ d) < 18446744073709551616 := by
    rw [← two64] at h1 h2 ⊢
    exact Nat.or_lt_two_pow h1 h2
  rw [shl_nat, shr_nat, bits_or_u64_nat _ _ h1 h2, bits_and_u64_nat _ _ h3 ha, h]

set_option maxRecDepth 100000 in
set_option maxHeartbeats 1000000 in
theorem turn_any (F : Int) (m : Nat) (k : Int) (w : World) (hm : m < 18446744073709551616) :
    Calls Try.prog 63 #[.int .i64 F, .int .u64 m, .int .i64 k] w (RetB (.int .u64 (turnN (frN F) m (modN k (frN F)))) w) := by
  have HL := Lib.hid (fun W => length_any F W)
  have hf := frN_le F
  generalize frN F = f at *
  by_cases h0 : f = 0
  · subst h0
    rw [turn_zero]
    go_enter Try.func63, Try.ntmps63
    go_wp2_with (go_at_call 87; refine (HL.out _).mono ?_; rintro e w' ⟨rfl, rfl⟩)
    go_ret
    exact ⟨rfl, Below.refl _ _⟩
  · have hfz : ((f : Int) == 0) = false := by simp; omega
    have e0 : frN (f : Int) = f := by unfold frN; omega
    have HA := Lib.hid (fun W => all_any (f : Int) W)
    rw [e0] at HA
    have HM := Lib.hid (fun W => modulo_any k f W (by omega) hf)
    have hl : modN k f < f := modN_lt (by omega)
    have hw := fun d hd => turn_word f m (modN k f) d hm hf hl hd
    generalize modN k f = l at *
    have ha := allN_lt hf
    have hm1 : m &&& allN f < 18446744073709551616 := Nat.lt_of_le_of_lt Nat.and_le_left hm
    have e1 := bits_and_u64_nat m (allN f) hm ha
    generalize m &&& allN f = m1 at *
    generalize allN f = al at *
    obtain ⟨d, hd⟩ : ∃ d, l + d = f := ⟨f - l, by omega⟩
    have HW := Lib.hid (hw d hd)
    have hd1 : 1 ≤ d := by omega
    have hsub : IntKind.i64.wrap ((f : Int) - (l : Int)) = (d : Int) := by rw [IntWalk.i64_in _ (by omega)]; omega
    clear hw h0 e0
    go_enter Try.func63, Try.ntmps63
    go_wp2_with (first | (go_at_call 87; refine (HL.out _).mono ?_; rintro e w' ⟨rfl, rfl⟩) | (go_at_call 64; refine (HA.out _).mono ?_; rintro e w' ⟨rfl, rfl⟩) | (go_at_call 88; refine (HM.out _).mono ?_; rintro e w' ⟨rfl, rfl⟩))
    go_quiet ((go_at_call 64; exact quiet_ret (HA.out _)))
    go_wp2_with fail
    go_ret
    refine ⟨ret_int (turn_int f m1 l d al _ hm1 ha HW.out), below_drewN (Below.refl _ _) _⟩

/-- n ticks from l on, round. -/
def roundN (f n l : Nat) : Nat := setP (fun j => decide (j < f) && decide (srcN f l j < n))
theorem turn_all (f n l : Nat) : turnN f (allN n) l = roundN f n l := setP_congr (fun j _ => by rw [allN_bit])

set_option maxHeartbeats 1000000 in
theorem round_any (F from_ n : Int) (w : World) :
    Calls Try.prog 40 #[.int .i64 F, .int .i64 from_, .int .i64 n] w (RetB (.int .u64 (roundN (frN F) (frN n) (modN from_ (frN F)))) w) := by
  have HA := Lib.hid (fun W => all_any n W)
  have HT := Lib.hid (turn_any F (allN (frN n)) from_ w (allN_lt (frN_le n)))
  rw [turn_all] at HT
  generalize allN (frN n) = al at *
  generalize roundN (frN F) (frN n) (modN from_ (frN F)) = r at *
  go_enter Try.func40, Try.ntmps40
  go_wp2_with (first | (go_at_call 64; refine (HA.out _).mono ?_; rintro e w' ⟨rfl, rfl⟩) | (go_at_call 63; refine HT.out.mono ?_; rintro e w' ⟨rfl, hb⟩))
  go_ret
  exact ⟨rfl, hb⟩
end Go.Proofs.Ytpfpojehcjmfnaa
