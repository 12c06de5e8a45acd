/-
  A whole plan over lists of wants: who is left over by first fit is split along the chain.
  Conditions: none.
-/
import Derived.Test.YtpfpojehcjmfnaaM11
import Derived.Test.YtpfpojehcjmfnaaM09
import Derived.Test.YtpfpojehcjmfnaaM10

/-
  Wants along the chain, one behind the other; why they don't go.
  Conditions: none.
-/
set_option linter.unusedVariables false
namespace Go.Proofs.Ytpfpojehcjmfnaa

noncomputable def chS (f : Int) (m : Nat) (st : List Pl × Nat) (w : Sp) : List Pl × Nat :=
  if w.2.toNat ≤ rmN f m st.1 (curN (rmN f m st.1)) then (addU st.1 ⟨w.1, w.2, (curN (rmN f m st.1) : Int), []⟩, st.2)
  else (addU st.1 (splP f m st.1 st.2 w), (st.2 + w.2.toNat) % f.toNat)
noncomputable def chT (f : Int) (m : Nat) (l : List Pl) (ws : List Sp) : List Pl × Nat := ws.foldl (chS f m) (l, 0)
theorem chT_snoc (f : Int) (m : Nat) (l : List Pl) (ws : List Sp) (w : Sp) : chT f m l (ws ++ [w]) = chS f m (chT f m l ws) w := by unfold chT; rw [List.foldl_append]; rfl
theorem chT_take {f : Int} {m : Nat} {l : List Pl} {ws : List Sp} {k : Nat} {w : Sp} (h : ws[k]? = some w) : chT f m l (ws.take (k + 1)) = chS f m (chT f m l (ws.take k)) w := by
  rw [List.take_add_one, h, Option.toList_some, chT_snoc]
theorem chS_whole {f : Int} {m a : Nat} {l : List Pl} {w : Sp} (h : w.2.toNat ≤ rmN f m l (curN (rmN f m l))) : chS f m (l, a) w = (addU l ⟨w.1, w.2, (curN (rmN f m l) : Int), []⟩, a) := if_pos h
theorem chS_split {f : Int} {m a : Nat} {l : List Pl} {w : Sp} (h : ¬ w.2.toNat ≤ rmN f m l (curN (rmN f m l))) : chS f m (l, a) w = (addU l (splP f m l a w), (a + w.2.toNat) % f.toNat) := if_neg h

theorem exP_get {α : Type} {xs : List α} {k : Nat} (h : k < xs.length) : ∃ x, xs[k]? = some x := ⟨xs[k], List.getElem?_eq_getElem h⟩
theorem rise_step {m : Nat} : ∀ {q : List Pc} {last : Int} {k : Nat} {y z : Pc}, Rise m last q → q[k]? = some y → q[k + 1]? = some z → y.c < z.c
  | [], _, _, _, _, _, h, _ => by simp at h
  | x :: q, last, 0, y, z, hr, hy, hz => by
    rw [List.getElem?_cons_zero] at hy
    rw [List.getElem?_cons_succ] at hz
    cases q with
    | nil => simp at hz
    | cons v q =>
      rw [List.getElem?_cons_zero] at hz
      rw [← Option.some.inj hy, ← Option.some.inj hz]
      exact hr.2.2.2.2.1
  | x :: q, last, k + 1, y, z, hr, hy, hz => by
    rw [List.getElem?_cons_succ] at hy hz
    exact rise_step hr.2.2.2 hy hz
/-- What holds behind some wants. -/
structure ChInv (f : Int) (m : Nat) (l0 : List Pl) (ws : List Sp) (st : List Pl × Nat) : Prop where
  ready : Ready f m st.1 st.2
  units : ∀ x ∈ st.1, x ∈ l0 ∨ ∃ w ∈ ws, w.1 = x.u
  keep : ∀ x ∈ l0, x ∈ st.1
  len : st.1.length = l0.length + ws.length
  got : ∀ w ∈ ws, ∃ x ∈ st.1, x.u = w.1 ∧ x.s = w.2
  ok : (∀ x ∈ l0, PlOk x ∧ x.ps.length ≤ 1000) → ∀ x ∈ st.1, PlOk x ∧ x.ps.length ≤ 1000
  full : ∀ x ∈ st.1, ∀ (k : Nat) (y : Pc), k + 1 < x.ps.length → x.ps[k]? = some y → roomN f m st.1 y.c = 0
  free : freeT f m st.1 16 + sumS ws = freeT f m l0 16
theorem room_zero {f : Int} {m : Nat} {l : List Pl} (h : Right f m l) {c : Nat} (hc : c < 16) : roomN f m l (c : Int) = 0 ↔ rmN f m l c = 0 := by
  have := (h.rm hc).1
  omega
theorem free_add {f : Int} {m : Nat} {l : List Pl} {x : Pl} (h : Right f m l) (h' : Right f m (addU l x)) (hn : ∀ y ∈ l, y.u ≠ x.u) : freeT f m (addU l x) 16 + x.s = freeT f m l 16 := by
  have h1 := h.all
  have h2 := h'.all
  rw [addU_eq hn] at h2 ⊢
  have h3 := put_sum (fun l => sumS (wantsT l)) (fun a b => by show sumS (wantsT (a ++ b)) = _; unfold wantsT; rw [List.map_append, sumS_append]) l x (posU l x.u)
  rw [show sumS (wantsT [x]) = x.s by simp [wantsT, sumS]] at h3
  omega
theorem ChInv.add {f : Int} {m : Nat} {l0 : List Pl} {ws : List Sp} {l : List Pl} {a a' : Nat} {w : Sp} {x : Pl} (h : ChInv f m l0 ws (l, a)) (hn : ∀ y ∈ l, y.u ≠ x.u) (hxu : x.u = w.1) (hxs : x.s = w.2) (hxok : PlOk x ∧ x.ps.length ≤ 1000)
    (hr : Ready f m (addU l x) a') (hle : ∀ c, c < 16 → rmN f m (addU l x) c ≤ rmN f m l c) (hfull : ∀ (k : Nat) (y : Pc), k + 1 < x.ps.length → x.ps[k]? = some y → roomN f m (addU l x) y.c = 0) : ChInv f m l0 (ws ++ [w]) (addU l x, a') := by
  have hmem : ∀ y, y ∈ addU l x ↔ y = x ∨ y ∈ l := fun y => by rw [addU_eq hn]; exact putPl_mem
  have hR : Right f m l := h.ready.right
  have hR' : Right f m (addU l x) := hr.right
  refine ⟨hr, fun y hy => ?_, fun y hy => (hmem y).2 (.inr (h.keep y hy)), ?_, fun v hv => ?_, fun ho y hy => ?_, fun z hz k y hk hy => ?_, ?_⟩
  · rcases (hmem y).1 hy with rfl | hy
    · exact .inr ⟨w, by simp, hxu.symm⟩
    · rcases h.units y hy with hl | ⟨v, hv, he⟩
      · exact .inl hl
      · exact .inr ⟨v, List.mem_append_left _ hv, he⟩
  · show (addU l x).length = _
    rw [addU_eq hn, putPl_length, List.length_append, List.length_singleton]
    have := h.len
    simp only at this
    omega
  · rcases List.mem_append.1 hv with hv | hv
    · obtain ⟨y, hy, h1⟩ := h.got v hv
      exact ⟨y, (hmem y).2 (.inr hy), h1⟩
    · rw [List.mem_singleton.1 hv]
      exact ⟨x, (hmem x).2 (.inl rfl), hxu, hxs⟩
  · rcases (hmem y).1 hy with rfl | hy
    · exact hxok
    · exact h.ok ho y hy
  · show roomN f m (addU l x) y.c = 0
    rcases (hmem z).1 hz with rfl | hz
    · exact hfull k y hk hy
    · have h1 := h.full z hz k y hk hy
      have h2 := hasC_range ((hR.place z hz).has y (List.mem_of_getElem? hy))
      obtain ⟨c, hc⟩ := Int.eq_ofNat_of_zero_le h2.1
      have hc16 : c < 16 := by omega
      simp only at h1
      rw [hc] at h1 ⊢
      rw [room_zero hR hc16] at h1
      rw [room_zero hR' hc16]
      have := hle c hc16
      omega
  · have h1 := free_add hR hR' hn
    have h2 := h.free
    show freeT f m (addU l x) 16 + sumS (ws ++ [w]) = _
    rw [sumS_append, show sumS [w] = w.2 by simp [sumS]]
    simp only at h2
    omega
theorem ChInv.next {f : Int} {m : Nat} {l0 : List Pl} {ws : List Sp} {st : List Pl × Nat} {w : Sp} (h : ChInv f m l0 ws st) (hw : WOk f (ws ++ [w])) (h0 : ∀ x ∈ l0, x.u ≠ w.1) (hs : w.2 ≤ freeT f m st.1 16) : ChInv f m l0 (ws ++ [w]) (chS f m st w) := by
  obtain ⟨l, a⟩ := st
  obtain ⟨hu, h1, h2⟩ := hw.all w (by simp)
  have hn : ∀ y ∈ l, y.u ≠ w.1 := fun y hy => by
    rcases h.units y hy with hl | ⟨v, hv, he⟩
    · exact h0 y hl
    · rw [← he]
      exact hw.last v hv
  have hf64 := h.ready.right.f64
  have hur := isU_range hu
  have hrd : Ready f m l a := h.ready
  by_cases hc : w.2.toNat ≤ rmN f m l (curN (rmN f m l))
  · rw [chS_whole hc]
    obtain ⟨k1, k2⟩ := hrd.whole hn hu h1 h2 hc
    have hcur := (cur_some (r := rmN f m l)).1
    refine h.add (x := ⟨w.1, w.2, (curN (rmN f m l) : Int), []⟩) hn rfl rfl ⟨⟨?_, ?_, ?_, (fun y hy => by cases hy)⟩, by simp⟩ k1 (fun c hc16 => by rw [k2 c hc16]; omega) (fun k y hk => by simp at hk)
    · show Int64 w.1
      unfold Int64; omega
    · show Int64 w.2
      unfold Int64; omega
    · show Int64 (curN (rmN f m l) : Int)
      unfold Int64; omega
  · rw [chS_split hc]
    have hsum : w.2.toNat ≤ sumTo (rmN f m l) 16 := by
      have q := rm_free hrd.right 16 (Nat.le_refl _)
      simp only at hs
      omega
    obtain ⟨k1, k2, k3⟩ := hrd.split hn hu h1 h2 hc hsum
    have hx : ∀ y ∈ (splP f m l a w).ps, ∃ c, c < 16 ∧ takeN (rmN f m l) w.2.toNat c ≠ 0 ∧ y = pcAt f.toNat a (rmN f m l) w.2.toNat c := fun y hy => pcsA_mem hy
    have hlen : (splP f m l a w).ps.length ≤ 16 := pcsA_few
    have hmem' : splP f m l a w ∈ addU l (splP f m l a w) := by
      rw [addU_eq (x := splP f m l a w) hn]
      exact putPl_mem.2 (.inl rfl)
    have hps := (k1.right.place _ hmem').split (fun e => by rw [e] at k3; exact absurd k3 (by decide))
    refine h.add (x := splP f m l a w) hn rfl rfl ⟨⟨?_, ?_, ?_, fun y hy => ?_⟩, by omega⟩ k1 (fun c hc16 => by rw [k2 c hc16]; omega) (fun k y hk hy => ?_)
    · show Int64 w.1
      unfold Int64; omega
    · show Int64 w.2
      unfold Int64; omega
    · show Int64 0
      unfold Int64; omega
    · obtain ⟨c, hc16, _, rfl⟩ := hx y hy
      refine ⟨?_, round_lt _ _ _⟩
      show Int64 (c : Int)
      unfold Int64; omega
    · obtain ⟨z, hz⟩ := exP_get hk
      have hyz := rise_step hps.rise hy hz
      obtain ⟨c, hc16, hc0, rfl⟩ := hx y (List.mem_of_getElem? hy)
      obtain ⟨c', hc16', hc0', rfl⟩ := hx z (List.mem_of_getElem? hz)
      have hcc : c < c' := by
        have : (c : Int) < (c' : Int) := hyz
        omega
      show roomN f m (addU l (splP f m l a w)) (c : Int) = 0
      rw [room_zero k1.right hc16, k2 c hc16, take_all (by
        have q1 := sumTo_mono (rmN f m l) (show c + 1 ≤ c' by omega)
        unfold takeN at hc0'
        omega)]
      omega
/-- Wants that may go along the chain. -/
structure ChGoes (f : Int) (m : Nat) (l : List Pl) (ws : List Sp) : Prop where
  goes : Goes f m l ws
  whole : splitsN l = 0
  room : sumS ws ≤ freeT f m l 16
theorem no_pieces : ∀ {l : List Pl}, splitsN l = 0 → pcsOf l = [] ∧ ∀ x ∈ l, x.ps = []
  | [], _ => ⟨rfl, fun x hx => by cases hx⟩
  | y :: l, h => by
    unfold splitsN at h
    rw [List.countP_cons] at h
    have hy : y.ps = [] := by
      by_cases e : y.ps.length = 0
      · exact List.eq_nil_of_length_eq_zero e
      · rw [decide_eq_false e] at h
        simp at h
    have hl : splitsN l = 0 := by unfold splitsN; omega
    obtain ⟨h1, h2⟩ := no_pieces hl
    refine ⟨by rw [pcsOf_cons, hy, h1]; rfl, fun x hx => ?_⟩
    rcases List.mem_cons.1 hx with rfl | hx
    · exact hy
    · exact h2 x hx
theorem low_core {m : Nat} (h : 0 < coresN m) : ∃ b, b < 16 ∧ m.testBit b = true ∧ ∀ i, i < b → m.testBit i = false := by
  have key : ∀ k : Nat, 0 < cntT m k → ∃ b, b < k ∧ m.testBit b = true ∧ ∀ i, i < b → m.testBit i = false := by
    intro k
    induction k with
    | zero => intro h; rw [cntT_zero] at h; omega
    | succ k ih =>
      intro h
      by_cases h0 : 0 < cntT m k
      · obtain ⟨b, h1, h2⟩ := ih h0
        exact ⟨b, by omega, h2⟩
      · have hz : ∀ i, i < k → m.testBit i = false := fun i hi => by
          cases hb : m.testBit i with
          | false => rfl
          | true =>
            have := cntT_lt m hi hb
            omega
        refine ⟨k, by omega, ?_, hz⟩
        rw [cntT_succ] at h
        cases hb : m.testBit k with
        | true => rfl
        | false => rw [hb] at h; simp at h; omega
  exact key 16 h
theorem ChGoes.start {f : Int} {m : Nat} {l : List Pl} {ws : List Sp} (h : ChGoes f m l ws) : ChInv f m l [] (l, 0) := by
  have hR := h.goes.right
  obtain ⟨p1, p2⟩ := no_pieces h.whole
  obtain ⟨b, b1, b2, b3⟩ := low_core (m := m) (Nat.lt_of_le_of_lt (Nat.zero_le _) hR.few)
  have hf := hR.f2
  refine ⟨⟨hR, by show 0 < f.toNat; omega, fun c _ _ j _ hw => ?_, b, b1, b2, by show splitsN l ≤ _; rw [h.whole]; exact Nat.zero_le _, fun i hi => ?_⟩, fun x hx => .inl hx, fun x hx => hx, rfl, (fun w hw => by cases hw), fun ho => ho, fun x hx k y hk => ?_, by simp [sumS]⟩
  · simp only at hw
    rw [p1, nOn_nil] at hw
    exact absurd hw (Nat.lt_irrefl _)
  · exact rm_no (by omega) (by rw [b3 i hi]; decide)
  · rw [p2 x hx] at hk
    exact absurd hk (by simp)
theorem sum_take_le : ∀ (ws : List Sp) (k : Nat), (∀ w ∈ ws, 0 ≤ w.2) → sumS (ws.take k) ≤ sumS ws := fun ws k h => by
  have e : sumS (ws.take k) + sumS (ws.drop k) = sumS ws := by rw [← sumS_append, List.take_append_drop]
  have h2 : ∀ l : List Sp, (∀ v ∈ l, 0 ≤ v.2) → 0 ≤ sumS l := fun l => by
    induction l with
    | nil => intro _; exact Int.le_refl _
    | cons y l ih =>
      intro h0
      have := ih fun v hv => h0 v (by simp [hv])
      have := h0 y (by simp)
      rw [sumS]; omega
  have := h2 (ws.drop k) fun v hv => h v (List.mem_of_mem_drop hv)
  omega
theorem ChGoes.inv {f : Int} {m : Nat} {l : List Pl} {ws : List Sp} (h : ChGoes f m l ws) : ∀ k : Nat, k ≤ ws.length → ChInv f m l (ws.take k) (chT f m l (ws.take k))
  | 0, _ => h.start
  | k + 1, hk => by
    have ih := h.inv k (by omega)
    have hx : ws[k]? = some ws[k] := List.getElem?_eq_getElem (by omega)
    have hW := (WOk.of_chk h.goes.chk).2
    have e : ws.take (k + 1) = ws.take k ++ [ws[k]] := by rw [List.take_add_one, hx, Option.toList_some]
    have hle := sum_take_le ws (k + 1) fun w hw => by have := hW.all w hw; omega
    rw [chT_take hx, e]
    rw [e, sumS_append, show sumS [ws[k]] = ws[k].2 by simp [sumS]] at hle
    refine ih.next ?_ (fun x hx' => anyB_no h.goes.none x hx' ws[k] (List.getElem_mem (by omega))) ?_
    · rw [← e]
      exact WOk.front (b := ws.drop (k + 1)) (by rw [List.take_append_drop]; exact hW)
    · have h1 := ih.free
      have h2 := h.room
      omega
theorem ChGoes.all {f : Int} {m : Nat} {l : List Pl} {ws : List Sp} (h : ChGoes f m l ws) : ChInv f m l ws (chT f m l ws) := by
  have := h.inv ws.length (Nat.le_refl _)
  rwa [List.take_length] at this
/-- Why wants don't go. -/
def Why19 (f : Int) (m : Nat) (l : List Pl) (ws : List Sp) (E : Int) : Prop :=
  (E ≠ 0 ∧ Why f m l ws E) ∨ (Why f m l ws 0 ∧ splitsN l ≠ 0 ∧ E = 15) ∨ (Why f m l ws 0 ∧ splitsN l = 0 ∧ freeT f m l 16 < sumS ws ∧ E = 12) ∨ (ChGoes f m l ws ∧ E = 0)
theorem Why19.unique {f : Int} {m : Nat} {l : List Pl} {ws : List Sp} {E E' : Int} (h : Why19 f m l ws E) (h' : Why19 f m l ws E') : E = E' := by
  rcases h with ⟨h0, h1⟩ | ⟨h1, h2, rfl⟩ | ⟨h1, h2, h3, rfl⟩ | ⟨h1, rfl⟩ <;> rcases h' with ⟨k0, k1⟩ | ⟨k1, k2, rfl⟩ | ⟨k1, k2, k3, rfl⟩ | ⟨k1, rfl⟩
  · exact h1.unique k1
  · exact absurd (h1.unique k1) h0
  · exact absurd (h1.unique k1) h0
  · exact absurd (h1.unique k1.goes.why) h0
  · exact absurd (k1.unique h1) k0
  · rfl
  · exact absurd k2 h2
  · exact absurd k1.whole h2
  · exact absurd (k1.unique h1) k0
  · exact absurd h2 k2
  · rfl
  · have := k1.room; omega
  · exact absurd (k1.unique h1.goes.why) k0
  · exact absurd h1.whole k2
  · have := h1.room; omega
  · rfl
theorem Why19.zero {f : Int} {m : Nat} {l : List Pl} {ws : List Sp} (h : Why19 f m l ws 0) : ChGoes f m l ws := by
  rcases h with ⟨h0, _⟩ | ⟨_, _, h0⟩ | ⟨_, _, _, h0⟩ | ⟨h1, _⟩
  · exact absurd rfl h0
  · exact absurd h0 (by decide)
  · exact absurd h0 (by decide)
  · exact h1
end Go.Proofs.Ytpfpojehcjmfnaa

/-
  Why wants don't go along the chain: the units of a plan and the wants behind them, checked together; the sum of wants.
  Conditions: none.
-/
set_option linter.unusedVariables false
namespace Go.Proofs.Ytpfpojehcjmfnaa

theorem chkL_append {f : Int} : ∀ (a b r : List Sp), chkL f b (a ++ r) = if chkL f b a = 0 then chkL f (b ++ a) r else chkL f b a
  | [], b, r => by rw [List.nil_append, List.append_nil, chkL, if_pos rfl]
  | y :: a, b, r => by
    rw [List.cons_append, chkL, chkL]
    by_cases h : chkE f b y = 0
    · rw [if_pos h, if_pos h, chkL_append a (b ++ [y]) r, List.append_assoc]
      rfl
    · rw [if_neg h, if_neg h, if_neg h]
/-- Wants that are right by themselves, behind others: all that can be wrong is a unit that is there twice. -/
theorem chkL_behind {f : Int} (b : List Sp) : ∀ (r a : List Sp), chkL f a r = 0 → chkL f (b ++ a) r = if (r.any fun w => b.any fun s => decide (s.1 = w.1)) = true then 11 else 0
  | [], a, _ => by rw [chkL, List.any_nil, if_neg (by decide)]
  | y :: r, a, h => by
    rw [chkL] at h
    by_cases he : chkE f a y = 0
    · rw [if_pos he] at h
      obtain ⟨h1, h2, h3, h4⟩ := chkE_zero.1 he
      rw [List.any_cons, chkL]
      cases hb : b.any fun s => decide (s.1 = y.1) with
      | true =>
        have e : chkE f (b ++ a) y = 11 := chkE_two h1 (by omega) (by omega) (by rw [List.any_append, hb]; rfl)
        rw [e, if_neg (by decide), Bool.true_or, if_pos rfl]
      | false =>
        have e : chkE f (b ++ a) y = 0 := chkE_zero.2 ⟨h1, h2, h3, by rw [List.any_append, hb, h4]; rfl⟩
        rw [e, if_pos rfl, Bool.false_or, List.append_assoc]
        exact chkL_behind b r (a ++ [y]) h
    · rw [if_neg he] at h
      exact absurd h he
theorem any_found (l : List Pl) (u : Int) : ((wantsT l).any fun s => decide (s.1 = u)) = (findU l u).isSome := by
  unfold findU wantsT
  rw [List.any_map]
  show (l.any fun x => decide (x.u = u)) = _
  cases h : (l.find? fun y => decide (y.u = u)) with
  | none =>
    rw [List.find?_eq_none] at h
    rw [List.any_eq_false.2 fun x hx => h x hx]
    rfl
  | some x =>
    have h1 := List.mem_of_find?_eq_some h
    have h2 := List.find?_some h
    rw [List.any_eq_true.2 ⟨x, h1, h2⟩]
    rfl
theorem Right.chk {f : Int} {m : Nat} {l : List Pl} (h : Right f m l) : chkT f (wantsT l) = 0 :=
  (units_iff.2 ⟨⟨h.f2, h.f64⟩, fun x hx => ⟨(h.place x hx).unit, (h.place x hx).s1, (h.place x hx).s2⟩, h.asc⟩).chk
theorem chk_both {f : Int} {m : Nat} {l : List Pl} {ws : List Sp} (h : Right f m l) (hw : chkT f ws = 0) : chkT f (wantsT l ++ ws) = if anyB l ws = true then 11 else 0 := by
  have hf : ¬ (f < 2 ∨ 64 < f) := by have := h.f2; have := h.f64; omega
  have h1 := h.chk
  unfold chkT at h1 hw ⊢
  rw [if_neg hf] at h1 hw ⊢
  rw [chkL_append, if_pos h1, List.nil_append]
  have h2 := chkL_behind (wantsT l) ws [] hw
  rw [List.append_nil] at h2
  rw [h2]
  unfold anyB
  simp only [any_found]
theorem tot_small : ∀ (ws : List Sp) (t : Int), (∀ w ∈ ws, 0 ≤ w.2 ∧ w.2 ≤ 64) → 0 ≤ t → t + 64 * (ws.length : Int) ≤ 1000000 → totL t ws = some (t + sumS ws)
  | [], t, _, _, _ => by rw [totL, sumS, Int.add_zero]
  | y :: r, t, h, h0, h1 => by
    have hy := h y (by simp)
    rw [List.length_cons] at h1
    have ha : addO t y.2 = some (t + y.2) := if_pos ⟨by omega, by omega⟩
    rw [totL_some ha, tot_small r (t + y.2) (fun w hw => h w (by simp [hw])) (by omega) (by omega), sumS, Int.add_assoc]
theorem tot_chk {f : Int} {ws : List Sp} (h : chkT f ws = 0) : totT ws = some (sumS ws) := by
  obtain ⟨hf, hall, _⟩ := WOk.of_chk h
  have h2 := few_wants h
  have := tot_small ws 0 (fun w hw => by have := hall w hw; omega) (by omega) (by omega)
  rwa [Int.zero_add] at this
end Go.Proofs.Ytpfpojehcjmfnaa

/-
  A whole plan over lists of wants: who is left over by first fit is split along the chain.
  Conditions: none.
-/
set_option linter.unusedVariables false
namespace Go.Proofs.Ytpfpojehcjmfnaa

/-! ### Wants of a plan, as a row in whatever order -/
theorem wantsT_append (a b : List Pl) : wantsT (a ++ b) = wantsT a ++ wantsT b := List.map_append
theorem putPl_perm (d : List Pl) (x : Pl) (k : Nat) : (putPl d x k).Perm (x :: d) := by
  unfold putPl
  rw [List.append_assoc]
  refine List.perm_middle.trans (List.Perm.cons x ?_)
  show (d.take k ++ d.drop k).Perm d
  rw [List.take_append_drop]
theorem addU_wants {d : List Pl} {x : Pl} (h : ∀ y ∈ d, y.u ≠ x.u) : (wantsT (addU d x)).Perm ((x.u, x.s) :: wantsT d) := by
  rw [addU_eq h]
  exact (putPl_perm d x _).map fun y => (y.u, y.s)
theorem sum_perm {a b : List Sp} (h : a.Perm b) : sumS a = sumS b := by
  induction h with
  | nil => rfl
  | cons x _ ih => rw [sumS, sumS, ih]
  | swap x y l => rw [sumS, sumS, sumS, sumS]; omega
  | trans _ _ h1 h2 => exact h1.trans h2
/-- Wants that are right by themselves, the other way round. -/
theorem WOk.chk {f : Int} {ws : List Sp} (hf : 2 ≤ f) (hf2 : f ≤ 64) (h : WOk f ws) : chkT f ws = 0 := by
  unfold chkT
  rw [if_neg (by omega), chkL_zero]
  intro i y hy
  obtain ⟨h1, h2, h3⟩ := h.all y (List.mem_of_getElem? hy)
  rw [chkE_zero]
  refine ⟨h1, h2, h3, ?_⟩
  rw [List.nil_append, List.any_eq_false]
  intro s hs
  obtain ⟨j, hj, hsj⟩ := List.mem_take_iff_getElem.1 hs
  obtain ⟨hi, rfl⟩ := List.getElem?_eq_some_iff.1 hy
  have hn := h.two
  rw [List.Nodup, List.pairwise_iff_getElem] at hn
  have := hn j i (by rw [List.length_map]; omega) (by rw [List.length_map]; exact hi) (by omega)
  rw [List.getElem_map, List.getElem_map, hsj] at this
  simpa using this
theorem WOk.sub {f : Int} {a b : List Sp} (h : WOk f b) (hs : a.Sublist b) : WOk f a := ⟨fun w hw => h.all w (hs.subset hw), h.two.sublist (hs.map _)⟩
theorem chk_perm {f : Int} {a b : List Sp} (h : a.Perm b) : chkT f a = 0 ↔ chkT f b = 0 :=
  ⟨fun h0 => by obtain ⟨⟨h1, h2⟩, h3⟩ := WOk.of_chk h0; exact (h3.perm h.symm).chk h1 h2, fun h0 => by obtain ⟨⟨h1, h2⟩, h3⟩ := WOk.of_chk h0; exact (h3.perm h).chk h1 h2⟩
theorem sort_perm_eq {a b : List Sp} (h : a.Perm b) : sortT a = sortT b := sort_eq (sortT_sorted a) ((sortT_perm a).trans h)

/-! ### First fit: everybody is placed or left over -/
structure FitAll (l0 : List Pl) (ws : List Sp) (st : List Pl × List Sp) : Prop where
  perm : (wantsT st.1 ++ st.2).Perm (wantsT l0 ++ ws)
  sub : st.2.Sublist ws
  split : splitsN st.1 = splitsN l0
theorem splits_add {d : List Pl} {x : Pl} (h : ∀ y ∈ d, y.u ≠ x.u) (hx : x.ps = []) : splitsN (addU d x) = splitsN d := by
  rw [addU_eq h, put_splits, hx]
  rfl
theorem fit_each {f : Int} {m : Nat} {l0 : List Pl} (hr : Right f m l0) {ws : List Sp} (hw : WOk f ws) (h0 : ∀ x ∈ l0, ∀ w ∈ ws, x.u ≠ w.1) : ∀ k : Nat, k ≤ ws.length → FitAll l0 (ws.take k) (fitT f m l0 (ws.take k))
  | 0, _ => ⟨List.Perm.refl _, List.Sublist.refl _, rfl⟩
  | k + 1, hk => by
    have ih := fit_each hr hw h0 k (by omega)
    have hI := fit_inv hr hw h0 k (by omega)
    have hx : ws[k]? = some ws[k] := List.getElem?_eq_getElem (by omega)
    have e : ws.take (k + 1) = ws.take k ++ [ws[k]] := by rw [List.take_add_one, hx, Option.toList_some]
    have hwk : WOk f (ws.take k ++ [ws[k]]) := by
      rw [← e]
      exact WOk.front (b := ws.drop (k + 1)) (by rw [List.take_append_drop]; exact hw)
    rw [fitT_take hx, e]
    generalize ws[k] = w at *
    generalize fitT f m l0 (ws.take k) = st at *
    have hn : ∀ y ∈ st.1, y.u ≠ w.1 := fun y hy => by
      rcases hI.units y hy with hl | ⟨v, hv, he⟩
      · exact h0 y hl w (List.mem_of_getElem? hx)
      · rw [← he]
        exact hwk.last v hv
    cases hf : firstR f m st.1 w.2 with
    | none =>
      rw [fitS_none hf]
      refine ⟨?_, ih.sub.append (List.Sublist.refl _), ih.split⟩
      show (wantsT st.1 ++ (st.2 ++ [w])).Perm _
      rw [← List.append_assoc, ← List.append_assoc]
      exact ih.perm.append_right [w]
    | some c =>
      rw [fitS_some hf]
      have hn' : ∀ y ∈ st.1, y.u ≠ (⟨w.1, w.2, (c : Int), []⟩ : Pl).u := hn
      refine ⟨?_, ih.sub.trans (List.sublist_append_left _ _), ?_⟩
      · show (wantsT (addU st.1 ⟨w.1, w.2, (c : Int), []⟩) ++ st.2).Perm _
        refine ((addU_wants hn').append_right st.2).trans ?_
        rw [← List.append_assoc]
        refine (List.Perm.cons w ih.perm).trans ?_
        exact (List.perm_append_singleton w _).symm
      · show splitsN (addU st.1 ⟨w.1, w.2, (c : Int), []⟩) = _
        rw [splits_add hn' rfl]
        exact ih.split
theorem fit_every {f : Int} {m : Nat} {l0 : List Pl} (hr : Right f m l0) {ws : List Sp} (hw : WOk f ws) (h0 : ∀ x ∈ l0, ∀ w ∈ ws, x.u ≠ w.1) : FitAll l0 ws (fitT f m l0 ws) := by
  have := fit_each hr hw h0 ws.length (Nat.le_refl _)
  rwa [List.take_length] at this

/-! ### Along the chain: everybody is placed -/
theorem ch_each {f : Int} {m : Nat} {l : List Pl} {ws : List Sp} (h : ChGoes f m l ws) : ∀ k : Nat, k ≤ ws.length → (wantsT (chT f m l (ws.take k)).1).Perm (wantsT l ++ ws.take k)
  | 0, _ => by rw [List.take_zero, List.append_nil]; exact List.Perm.refl _
  | k + 1, hk => by
    have ih := ch_each h k (by omega)
    have hI := h.inv k (by omega)
    have hx : ws[k]? = some ws[k] := List.getElem?_eq_getElem (by omega)
    have e : ws.take (k + 1) = ws.take k ++ [ws[k]] := by rw [List.take_add_one, hx, Option.toList_some]
    have hW := (WOk.of_chk h.goes.chk).2
    have hwk : WOk f (ws.take k ++ [ws[k]]) := by
      rw [← e]
      exact WOk.front (b := ws.drop (k + 1)) (by rw [List.take_append_drop]; exact hW)
    rw [chT_take hx, e]
    have hm := List.mem_of_getElem? hx
    generalize ws[k] = w at *
    obtain ⟨l', a, hst⟩ : ∃ l' a, chT f m l (ws.take k) = (l', a) := ⟨_, _, rfl⟩
    rw [hst] at ih hI ⊢
    simp only at ih
    have hn : ∀ y ∈ l', y.u ≠ w.1 := fun y hy => by
      rcases hI.units y hy with hl | ⟨v, hv, he⟩
      · exact anyB_no h.goes.none y hl w hm
      · rw [← he]
        exact hwk.last v hv
    have key : ∀ x : Pl, x.u = w.1 → x.s = w.2 → (wantsT (addU l' x)).Perm (wantsT l ++ (ws.take k ++ [w])) := fun x h1 h2 => by
      refine (addU_wants (fun y hy => by rw [h1]; exact hn y hy)).trans ?_
      rw [h1, h2, ← List.append_assoc]
      refine (List.Perm.cons _ ih).trans ?_
      exact (List.perm_append_singleton w _).symm
    by_cases hc : w.2.toNat ≤ rmN f m l' (curN (rmN f m l'))
    · rw [chS_whole hc]
      exact key _ rfl rfl
    · rw [chS_split hc]
      exact key _ rfl rfl
theorem ch_every {f : Int} {m : Nat} {l : List Pl} {ws : List Sp} (h : ChGoes f m l ws) : (wantsT (chT f m l ws).1).Perm (wantsT l ++ ws) := by
  have := ch_each h ws.length (Nat.le_refl _)
  rwa [List.take_length] at this

/-! ### A whole plan -/
noncomputable def fullT (f : Int) (m : Nat) (ws : List Sp) : List Pl := (chT f m (fitT f m [] (sortT ws)).1 (fitT f m [] (sortT ws)).2).1
/-- Why there is none. -/
def Why20 (f : Int) (m : Nat) (ws : List Sp) (E : Int) : Prop :=
  (¬ Right f m [] ∧ E = 30) ∨ (Right f m [] ∧ chkT f ws ≠ 0 ∧ E = chkT f ws) ∨ (Right f m [] ∧ chkT f ws = 0 ∧ f * (coresN m : Int) < sumS ws ∧ E = 12) ∨ (Right f m [] ∧ chkT f ws = 0 ∧ sumS ws ≤ f * (coresN m : Int) ∧ E = 0)
structure FullOk (f : Int) (m : Nat) (ws : List Sp) : Prop where
  right : Right f m []
  chk : chkT f ws = 0
  sum : sumS ws ≤ f * (coresN m : Int)
theorem Why20.unique {f : Int} {m : Nat} {ws : List Sp} {E E' : Int} (h : Why20 f m ws E) (h' : Why20 f m ws E') : E = E' := by
  rcases h with ⟨h1, rfl⟩ | ⟨h1, h2, rfl⟩ | ⟨h1, h2, h3, rfl⟩ | ⟨h1, h2, h3, rfl⟩ <;> rcases h' with ⟨k1, rfl⟩ | ⟨k1, k2, rfl⟩ | ⟨k1, k2, k3, rfl⟩ | ⟨k1, k2, k3, rfl⟩ <;> first | rfl | exact absurd h1 k1 | exact absurd k1 h1 | exact absurd k2 h2 | exact absurd h2 k2 | (exfalso; omega)
theorem Why20.zero {f : Int} {m : Nat} {ws : List Sp} (h : Why20 f m ws 0) : FullOk f m ws := by
  rcases h with ⟨_, h0⟩ | ⟨_, h2, h0⟩ | ⟨_, _, _, h0⟩ | ⟨h1, h2, h3, _⟩
  · exact absurd h0 (by decide)
  · exact absurd h0.symm h2
  · exact absurd h0 (by decide)
  · exact ⟨h1, h2, h3⟩
theorem FullOk.why {f : Int} {m : Nat} {ws : List Sp} (h : FullOk f m ws) : Why20 f m ws 0 := .inr (.inr (.inr ⟨h.right, h.chk, h.sum, rfl⟩))
theorem free_none {f : Int} {m : Nat} (h : Right f m []) : freeT f m [] 16 = f * (coresN m : Int) := by
  have := h.all
  rw [show sumS (wantsT []) = 0 from rfl] at this
  omega
theorem FullOk.inv {f : Int} {m : Nat} {ws : List Sp} (h : FullOk f m ws) : FitInv f m [] (sortT ws) (fitT f m [] (sortT ws)) :=
  fit_all h.right ((WOk.of_chk h.chk).2.perm (sortT_perm ws)) fun x hx => by cases hx
theorem FullOk.each {f : Int} {m : Nat} {ws : List Sp} (h : FullOk f m ws) : FitAll [] (sortT ws) (fitT f m [] (sortT ws)) :=
  fit_every h.right ((WOk.of_chk h.chk).2.perm (sortT_perm ws)) fun x hx => by cases hx
theorem FullOk.goes {f : Int} {m : Nat} {ws : List Sp} (h : FullOk f m ws) : ChGoes f m (fitT f m [] (sortT ws)).1 (fitT f m [] (sortT ws)).2 := by
  have hI := h.inv
  have hE := h.each
  have hW := (WOk.of_chk h.chk).2.perm (sortT_perm ws)
  have hf := (WOk.of_chk h.chk).1
  generalize fitT f m [] (sortT ws) = st at *
  have hp : (wantsT st.1 ++ st.2).Perm (sortT ws) := hE.perm
  have hnd : ((wantsT st.1 ++ st.2).map Prod.fst).Nodup := ((hp.map _).nodup_iff).2 hW.two
  rw [List.map_append] at hnd
  refine ⟨⟨hI.right, (hW.sub hE.sub).chk hf.1 hf.2, ?_⟩, hE.split, ?_⟩
  · unfold anyB
    rw [List.any_eq_false]
    intro w hw hs
    unfold findU at hs
    rw [List.find?_isSome] at hs
    obtain ⟨x, hx, he⟩ := hs
    have he' : x.u = w.1 := by simpa using he
    exact (List.nodup_append.1 hnd).2.2 x.u (List.mem_map.2 ⟨(x.u, x.s), List.mem_map_of_mem (f := fun y : Pl => (y.u, y.s)) hx, rfl⟩) w.1 (List.mem_map_of_mem hw) he'
  · have h1 := hI.right.all
    have h2 := hI.sum
    have h3 := sum_perm (sortT_perm ws)
    have h4 := h.sum
    rw [show sumS (wantsT []) = 0 from rfl] at h2
    omega
/-- What the whole plan is. -/
structure FullIs (f : Int) (m : Nat) (ws : List Sp) (L : List Pl) : Prop where
  right : Right f m L
  perm : (wantsT L).Perm ws
  free : freeT f m L 16 = f * (coresN m : Int) - sumS ws
  ok : ∀ x ∈ L, PlOk x ∧ x.ps.length ≤ 1000
  len : L.length = ws.length
  got : ∀ w ∈ ws, ∃ x, findU L w.1 = some x ∧ x.u = w.1 ∧ x.s = w.2
theorem FullOk.is {f : Int} {m : Nat} {ws : List Sp} (h : FullOk f m ws) : FullIs f m ws (fullT f m ws) := by
  have hI := h.inv
  have hE := h.each
  have hG := h.goes
  have hC := hG.all
  have hP := ch_every hG
  unfold fullT
  generalize fitT f m [] (sortT ws) = st at *
  obtain ⟨L, a, hst⟩ : ∃ L a, chT f m st.1 st.2 = (L, a) := ⟨_, _, rfl⟩
  rw [hst] at hC hP ⊢
  simp only at hP
  have hR : Right f m L := hC.ready.right
  have hp : (wantsT L).Perm ws := hP.trans (hE.perm.trans (sortT_perm ws))
  refine ⟨hR, hp, ?_, fun x hx => hC.ok (hI.ok fun y hy => by cases hy) x hx, ?_, fun w hw => ?_⟩
  · have h1 := hR.all
    have h2 := sum_perm hp
    show freeT f m L 16 = _
    omega
  · have := hp.length_eq
    rw [wantsT_length] at this
    exact this
  · have hm := hp.mem_iff.2 hw
    obtain ⟨x, hx, he⟩ := List.mem_map.1 hm
    have e1 : x.u = w.1 := by rw [← he]
    have e2 : x.s = w.2 := by rw [← he]
    exact ⟨x, by rw [← e1]; exact hR.found hx, e1, e2⟩
/-- Nobody is split where it is sure. -/
theorem FullOk.sure {f : Int} {m : Nat} {ws : List Sp} (h : FullOk f m ws) {c : Int} (hs : sureT f c ws = true) (hm : (coresN m : Int) = c) : splitsN (fullT f m ws) = 0 := by
  have h1 := sure_none hs hm h.right
  have hE := h.each
  unfold fullT
  rw [h1]
  exact hE.split
/-- The order of the wants does not matter. -/
theorem full_perm {f : Int} {m : Nat} {a b : List Sp} (h : a.Perm b) : fullT f m a = fullT f m b := by unfold fullT; rw [sort_perm_eq h]
theorem FullOk.perm {f : Int} {m : Nat} {a b : List Sp} (h : FullOk f m a) (hp : a.Perm b) : FullOk f m b := ⟨h.right, (chk_perm hp).1 h.chk, by rw [← sum_perm hp]; exact h.sum⟩

/-! ### Made anew -/
theorem rising_unique : ∀ {a b : List Sp}, a.Pairwise (fun x y => x.1 < y.1) → b.Pairwise (fun x y => x.1 < y.1) → a.Perm b → a = b
  | [], b, _, _, h => (List.nil_perm.1 h).symm
  | x :: a, [], _, _, h => by have := h.length_eq; simp at this
  | x :: a, y :: b, ha, hb, h => by
    obtain ⟨a1, a2⟩ := List.pairwise_cons.1 ha
    obtain ⟨b1, b2⟩ := List.pairwise_cons.1 hb
    have e : x = y := by
      rcases List.mem_cons.1 (h.mem_iff.1 List.mem_cons_self) with e | hx
      · exact e
      · rcases List.mem_cons.1 (h.mem_iff.2 List.mem_cons_self) with e | hy
        · exact e.symm
        · have h1 := b1 x hx
          have h2 := a1 y hy
          omega
    subst e
    rw [rising_unique a2 b2 (h.cons_inv)]
theorem Right.rising {f : Int} {m : Nat} {l : List Pl} (h : Right f m l) : (wantsT l).Pairwise fun x y => x.1 < y.1 := by
  have := h.pairs
  unfold wantsT
  rw [List.pairwise_map]
  exact this
theorem Right.nil {f : Int} {m : Nat} {l : List Pl} (h : Right f m l) : Right f m [] := by
  refine ⟨h.f2, h.f64, h.m0, h.m16, fun x hx => (by cases hx), fun i x y hx => (by simp at hx), fun c _ t _ => Nat.zero_le _, ?_, fun c _ _ => ?_⟩
  · exact Nat.lt_of_le_of_lt (Nat.zero_le _) h.few
  · have : loadN [] (c : Int) = 0 := by
      unfold loadN
      rw [show pcsOf [] = [] from rfl, winN_nil]
      rfl
    have := h.f2
    omega
theorem Right.again {f : Int} {m : Nat} {l : List Pl} (h : Right f m l) : FullOk f m (wantsT l) := by
  refine ⟨h.nil, h.chk, ?_⟩
  have h1 := h.all
  have h2 := rm_free h 16 (Nat.le_refl _)
  omega
theorem Right.wants {f : Int} {m : Nat} {l : List Pl} (h : Right f m l) : wantsT (fullT f m (wantsT l)) = wantsT l :=
  rising_unique h.again.is.right.rising h.rising h.again.is.perm
theorem Right.twice {f : Int} {m : Nat} {l : List Pl} (h : Right f m l) : fullT f m (wantsT (fullT f m (wantsT l))) = fullT f m (wantsT l) := by rw [h.wants]

/-! ### The fewest cores -/
/-- The fewest cores that are enough, 0: more than 16. -/
def leastT (f : Int) (ws : List Sp) : Nat := ((List.range 17).find? fun c : Nat => decide (1 ≤ c ∧ sumS ws ≤ (c : Int) * f)).getD 0
theorem least_some {f : Int} {ws : List Sp} {c : Nat} (h1 : 1 ≤ c) (h2 : c ≤ 16) (h3 : sumS ws ≤ (c : Int) * f) (h4 : ∀ j : Nat, 1 ≤ j → j < c → (j : Int) * f < sumS ws) : leastT f ws = c := by
  unfold leastT
  have e : ((List.range 17).find? fun c : Nat => decide (1 ≤ c ∧ sumS ws ≤ (c : Int) * f)) = some c := by
    rw [List.find?_range_eq_some]
    refine ⟨decide_eq_true ⟨h1, h3⟩, List.mem_range.2 (by omega), fun j hj => ?_⟩
    rw [Bool.not_eq_true', decide_eq_false_iff_not]
    rintro ⟨k1, k2⟩
    have := h4 j k1 hj
    omega
  rw [e]
  rfl
theorem least_none {f : Int} {ws : List Sp} (h : ∀ j : Nat, 1 ≤ j → j ≤ 16 → (j : Int) * f < sumS ws) : leastT f ws = 0 := by
  unfold leastT
  have e : ((List.range 17).find? fun c : Nat => decide (1 ≤ c ∧ sumS ws ≤ (c : Int) * f)) = none := by
    rw [List.find?_range_eq_none]
    intro j hj
    rw [Bool.not_eq_true', decide_eq_false_iff_not]
    rintro ⟨k1, k2⟩
    have := h j k1 (by omega)
    omega
  rw [e]
  rfl
end Go.Proofs.Ytpfpojehcjmfnaa
