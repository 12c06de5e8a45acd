/-
  A woven place is right: the plan with it is.
  Conditions: none.
-/
import Derived.Test.YtkgkanmccaodfaaM12
import Derived.Test.YtkgkanmccaodfaaM06

/-
  One unit more along the chain: a right plan stays right; what holds behind some wants.
  Conditions: none.
-/
set_option linter.unusedVariables false
namespace Go.Proofs.Ytkgkanmccaodfaa

/-! ### Rooms -/
def rmN (f : Int) (m : Nat) (l : List Pl) (c : Nat) : Nat := (roomN f m l (c : Int)).toNat
theorem Right.room {f : Int} {m : Nat} {l : List Pl} (h : Right f m l) (hl : ∀ c : Int, 0 ≤ loadN l c) {c : Nat} (hc : c < 16) : (rmN f m l c : Int) = roomN f m l (c : Int) ∧ rmN f m l c ≤ f.toNat ∧ (rmN f m l c ≠ 0 → m.testBit c = true) := by
  have h2 := h.f2
  have h3 := hl (c : Int)
  unfold rmN
  unfold roomN
  rw [hasC_nat hc]
  by_cases hb : m.testBit c = true
  · rw [if_pos hb]
    have := h.load c hc hb
    exact ⟨by omega, by omega, fun _ => hb⟩
  · rw [if_neg hb]
    exact ⟨by omega, by omega, fun h => absurd rfl h⟩
theorem load_nonneg {f : Int} {m : Nat} {l : List Pl} (h : Right f m l) (c : Int) : 0 ≤ loadN l c := by
  have h1 := shares_wholes (shares_of h.place h.f64) c
  have h2 : ∀ ps : List Sp, (∀ p ∈ ps, 0 ≤ p.2 ∧ p.2 ≤ 64) → 0 ≤ sumS ps := fun ps hp => (sumS_bound ps hp).1
  have h3 := h2 _ h1
  unfold loadN
  omega
theorem Right.rm {f : Int} {m : Nat} {l : List Pl} (h : Right f m l) {c : Nat} (hc : c < 16) : (rmN f m l c : Int) = roomN f m l (c : Int) ∧ rmN f m l c ≤ f.toNat ∧ (rmN f m l c ≠ 0 → m.testBit c = true) := h.room (load_nonneg h) hc
theorem rm_free {f : Int} {m : Nat} {l : List Pl} (h : Right f m l) : ∀ k : Nat, k ≤ 16 → (sumTo (rmN f m l) k : Int) = freeT f m l k
  | 0, _ => rfl
  | k + 1, hk => by
    have h1 := rm_free h k (by omega)
    have h2 := (h.rm (c := k) (by omega)).1
    rw [sumTo, freeT]
    omega

theorem rm_yes {f : Int} {m : Nat} {l : List Pl} {c : Nat} (hc : c < 16) (hb : m.testBit c = true) : rmN f m l c = (f - loadN l (c : Int)).toNat := by
  unfold rmN roomN
  rw [hasC_nat hc, if_pos hb]
theorem rm_no {f : Int} {m : Nat} {l : List Pl} {c : Nat} (hc : c < 16) (hb : ¬ m.testBit c = true) : rmN f m l c = 0 := by
  unfold rmN roomN
  rw [hasC_nat hc, if_neg hb]
  rfl

/-! ### A split place put into a plan -/
theorem put_nOn (d : List Pl) (x : Pl) (k : Nat) (c : Int) (t : Nat) : nOn (pcsOf (putPl d x k)) c t = nOn (pcsOf d) c t + nOn x.ps c t := by
  have e : ∀ a b : List Pl, pcsOf (a ++ b) = pcsOf a ++ pcsOf b := fun a b => by simp [pcsOf]
  have h := put_sum (fun l => (nOn (pcsOf l) c t : Int)) (fun a b => by show ((nOn (pcsOf (a ++ b)) c t : Nat) : Int) = _; rw [e, nOn_append]; omega) d x k
  have h2 : pcsOf [x] = x.ps := by simp [pcsOf]
  simp only [h2] at h
  omega
theorem put_wholes {d : List Pl} {x : Pl} (hx : x.ps ≠ []) (k : Nat) (c : Int) : sumS (wholesT (putPl d x k) c) = sumS (wholesT d c) := by
  rw [put_sum (fun l => sumS (wholesT l c)) (fun a b => by simp only [wholes_append, sumS_append])]
  have e : sumS (wholesT [x] c) = 0 := by
    rw [wholesT_cons]
    unfold wholeB
    rw [decide_eq_false fun h0 => hx (List.eq_nil_of_length_eq_zero h0)]
    simp [wholesT, sumS]
  omega
theorem put_splits {d : List Pl} {x : Pl} (k : Nat) : splitsN (putPl d x k) = splitsN d + (!decide (x.ps.length = 0)).toNat := by
  have h := put_sum (fun l => (splitsN l : Int)) (fun a b => by show ((splitsN (a ++ b) : Nat) : Int) = _; unfold splitsN; rw [List.countP_append]; omega) d x k
  have e : splitsN [x] = (!decide (x.ps.length = 0)).toNat := by unfold splitsN; rw [List.countP_singleton]; cases (!decide (x.ps.length = 0)) <;> rfl
  simp only [e] at h
  omega

/-- What is asked of a plan and a tick, so that a unit may be split from there on. -/
structure Ready (f : Int) (m : Nat) (l : List Pl) (a : Nat) : Prop where
  right : Right f m l
  tick : a < f.toNat
  win : ∀ c : Nat, c < 16 → rmN f m l c ≠ 0 → ∀ j, j < f.toNat → 0 < nOn (pcsOf l) (c : Int) j → (∀ i, i < c → rmN f m l i = 0) ∧ rmN f m l c ≤ srcN f.toNat a j
  bound : ∃ b, b < 16 ∧ m.testBit b = true ∧ splitsN l ≤ cntT m b ∧ ∀ i, i < b → rmN f m l i = 0

/-- A unit that is split along the chain. -/
noncomputable def splP (f : Int) (m : Nat) (l : List Pl) (a : Nat) (w : Sp) : Pl := ⟨w.1, w.2, 0, pcsA f.toNat a (rmN f m l) w.2.toNat⟩

set_option maxHeartbeats 2000000 in
theorem Ready.split {f : Int} {m : Nat} {l : List Pl} {a : Nat} (h : Ready f m l a) {w : Sp} (hn : ∀ y ∈ l, y.u ≠ w.1) (hu : isU w.1 = true) (h1 : 1 ≤ w.2) (h2 : w.2 ≤ f) (hc : ¬ w.2.toNat ≤ rmN f m l (curN (rmN f m l))) (hr : w.2.toNat ≤ sumTo (rmN f m l) 16) :
    Ready f m (addU l (splP f m l a w)) ((a + w.2.toNat) % f.toNat) ∧ (∀ c, c < 16 → rmN f m (addU l (splP f m l a w)) c = rmN f m l c - takeN (rmN f m l) w.2.toNat c) ∧ 2 ≤ (splP f m l a w).ps.length := by
  have hR := h.right
  have hf2 := hR.f2
  have hf64 := hR.f64
  obtain ⟨n, hnn⟩ : ∃ n, f.toNat = n := ⟨_, rfl⟩
  obtain ⟨s, hss⟩ : ∃ s, w.2.toNat = s := ⟨_, rfl⟩
  have hnf : (n : Int) = f := by omega
  have hsw : (s : Int) = w.2 := by omega
  have hn64 : n ≤ 64 := by omega
  have hsn : s ≤ n := by omega
  have ha : a < n := by have := h.tick; omega
  have hrm := fun c hc => hR.rm (c := c) hc
  have hwin := h.win
  obtain ⟨b, hb16, hbb, hbs, hb0⟩ := h.bound
  have hps : (splP f m l a w).ps = pcsA n a (rmN f m l) s := by unfold splP; rw [hnn, hss]
  have hxu : (splP f m l a w).u = w.1 := rfl
  have hxs : (splP f m l a w).s = w.2 := rfl
  have hxc : (splP f m l a w).c = 0 := rfl
  generalize splP f m l a w = x at *
  have hn' : ∀ y ∈ l, y.u ≠ x.u := by rw [hxu]; exact hn
  have hyes : ∀ c, c < 16 → m.testBit c = true → rmN f m l c = (f - loadN l (c : Int)).toNat := fun c hc hb => rm_yes hc hb
  have hno : ∀ c, c < 16 → ¬ m.testBit c = true → rmN f m l c = 0 := fun c hc hb => rm_no hc hb
  generalize rmN f m l = r at *
  rw [hss] at hc hr ⊢
  rw [hnn] at hwin ⊢
  obtain ⟨hk15, hk0, hk1⟩ := cur_some (r := r)
  have hkne : r (curN r) ≠ 0 := by
    rcases Nat.lt_or_ge (curN r) 15 with h3 | h3
    · exact hk1 h3
    · intro e
      have e15 : curN r = 15 := by omega
      have : sumTo r 16 = 0 := by
        rw [sumTo, sumTo_cur (fun i hi => hk0 i (by omega)), ← e15, e]
      omega
  obtain ⟨e, g0, g16, g2, g3⟩ := last_core hc hr
  obtain ⟨te, te0, re0⟩ := take_core g2 g3
  have htwo : 2 ≤ x.ps.length := by rw [hps]; exact pcsA_two hc hr hkne
  have hne : x.ps ≠ [] := fun e => by rw [e] at htwo; exact absurd htwo (by decide)
  have hbits : ∀ c, c < 16 → r c ≠ 0 → m.testBit c = true := fun c hc h => (hrm c hc).2.2 h
  have hrise : Rise m (-1) (pcsA n a r s) := pcsA_rise (m := m) (n := n) (a := a) (s := s) (r := r) ha hn64 hsn hbits
  -- at no tick two, on each core
  have hmeet : ∀ c : Nat, c < 16 → ∀ j, j < 64 → nOn (pcsOf l) (c : Int) j + nOn (pcsA n a r s) (c : Int) j ≤ 1 := fun c hc16 j hj => by
    have k1 := hR.apart c hc16 j hj
    rw [pcsA_on ha hn64 hsn hc16]
    by_cases hd : j < n ∧ loN r s c ≤ srcN n a j ∧ srcN n a j < loN r s (c + 1)
    · rw [decide_eq_true hd]
      obtain ⟨hjn, d1, d2⟩ := hd
      have d3 := lo_succ r s c
      rcases Nat.eq_zero_or_pos (nOn (pcsOf l) (c : Int) j) with h0 | h0
      · rw [h0]; exact Nat.le_refl _
      · have hrc : r c ≠ 0 := fun e => by unfold takeN at d3; omega
        obtain ⟨z1, z2⟩ := hwin c hc16 hrc j hjn h0
        have z3 := sumTo_cur (r := r) z1
        unfold loN at d1 d2
        rw [sumTo, z3] at d2
        omega
    · rw [decide_eq_false hd]
      exact k1
  have hmeet' : ∀ c : Nat, c < 16 → ∀ j, j < 64 → nOn (pcsOf (addU l x)) (c : Int) j ≤ 1 := fun c hc16 j hj => by
    rw [addU_eq hn', put_nOn, hps]
    exact hmeet c hc16 j hj
  -- rooms
  have hload : ∀ c : Nat, c < 16 → loadN (addU l x) (c : Int) = loadN l (c : Int) + (takeN r s c : Int) := fun c hc16 => by
    unfold loadN
    rw [cnt_win (hmeet' c hc16), cnt_win (hR.apart c hc16), addU_eq hn', put_wholes hne]
    have : sumTo (nOn (pcsOf (putPl l x (posU l x.u))) (c : Int)) 64 = sumTo (nOn (pcsOf l) (c : Int)) 64 + takeN r s c := by
      rw [← pcsA_core (r := r) ha hn64 hsn hc16, ← sumTo_add]
      refine sumTo_congr fun t _ => ?_
      rw [put_nOn, hps]
    rw [this]
    omega
  have htr : ∀ c : Nat, takeN r s c ≤ r c := fun c => Nat.min_le_left _ _
  have hrooms : ∀ c, c < 16 → rmN f m (addU l x) c = r c - takeN r s c := fun c hc16 => by
    have q1 := hload c hc16
    have q2 := htr c
    by_cases hb : m.testBit c = true
    · have q3 := hyes c hc16 hb
      rw [rm_yes hc16 hb, q1]
      omega
    · rw [rm_no hc16 hb, hno c hc16 hb, Nat.zero_sub]
  have hzero : ∀ i, i < e → rmN f m (addU l x) i = 0 := fun i hi => by
    rw [hrooms i (by omega), take_all (Nat.le_trans (sumTo_mono _ (show i + 1 ≤ e by omega)) (by omega))]
    omega
  have hce : cntT m b < cntT m e := cntT_lt m (by
    rcases Nat.lt_or_ge b e with h3 | h3
    · exact h3
    · exact absurd (hb0 (curN r) (by omega)) hkne) hbb
  have hbe : m.testBit e = true := (hrm e g16).2.2 re0
  have hsp : splitsN (addU l x) ≤ cntT m e := by
    rw [addU_eq hn', put_splits, decide_eq_false (show ¬ x.ps.length = 0 by omega)]
    show splitsN l + 1 ≤ _
    omega
  have hasc := put_asc hR.pairs hn'
  have hfew : splitsN (addU l x) < coresN m := by
    have q := cntT_lt m g16 hbe
    unfold coresN
    omega
  have hRn : Right f m (addU l x) := by
    refine ⟨hf2, hf64, hR.m0, hR.m16, fun y hy => ?_, fun i z y hx hy => ?_, hmeet', hfew, fun c hc16 hb => ?_⟩
    · rw [addU_eq hn'] at hy
      rcases putPl_mem.1 hy with hy | hy
      · subst hy
        refine ⟨by rw [hxu]; exact hu, by rw [hxs]; exact h1, by rw [hxs]; exact h2, fun e => absurd e hne, fun _ => ⟨hxc, htwo, ?_, ?_, ?_⟩⟩
        · rw [hps]
          exact hrise
        · intro t ht
          rw [hps, pcsA_any ha hn64 hsn hr]
          refine ⟨Bool.toNat_le _, fun h0 => ?_⟩
          by_cases hd : t < n ∧ srcN n a t < s
          · have := hd.1
            omega
          · rw [decide_eq_false hd] at h0
            exact absurd h0 (by decide)
        · rw [hps, pcsA_count ha hn64 hsn hr, hxs]
          exact hsw
      · exact hR.place y hy
    · rw [addU_eq hn'] at hx hy
      exact hasc.next hx hy
    · rw [hload c hc16]
      have q1 := (hrm c hc16).1
      have q2 := htr c
      unfold roomN at q1
      rw [hasC_nat hc16, if_pos hb] at q1
      omega
  refine ⟨⟨hRn, ?_, fun c hc16 hr0 j hj hw => ?_, e, g16, hbe, hsp, hzero⟩, hrooms, htwo⟩
  · rw [hnn]
    exact Nat.mod_lt _ (by omega)
  · rw [hnn] at hj ⊢
    rw [hrooms c hc16] at hr0 ⊢
    rw [addU_eq hn', put_nOn, hps] at hw
    have hlt : sumTo r (c + 1) > s := by
      rcases Nat.lt_or_ge s (sumTo r (c + 1)) with q | q
      · exact q
      · rw [take_all q] at hr0
        omega
    have hold : ¬ 0 < nOn (pcsOf l) (c : Int) j := fun h0 => by
      have hrc : r c ≠ 0 := by omega
      obtain ⟨z1, _⟩ := hwin c hc16 hrc j hj h0
      have z3 := sumTo_cur (r := r) z1
      have z4 := cur_of hc16 hrc z1
      rw [sumTo, z3] at hlt
      rw [z4] at hc
      omega
    have hnew : 0 < nOn (pcsA n a r s) (c : Int) j := by omega
    rw [pcsA_on ha hn64 hsn hc16] at hnew
    by_cases hd : j < n ∧ loN r s c ≤ srcN n a j ∧ srcN n a j < loN r s (c + 1)
    · obtain ⟨_, d1, d2⟩ := hd
      have d3 := lo_le r s (c + 1)
      have hcs : sumTo r c < s := by
        rcases Nat.lt_or_ge (sumTo r c) s with q | q
        · exact q
        · unfold loN at d1 d2
          omega
      have hce' : c = e := by
        rcases Nat.lt_trichotomy c e with q | q | q
        · have := sumTo_mono r (show c + 1 ≤ e by omega)
          omega
        · exact q
        · have := sumTo_mono r (show e + 1 ≤ c by omega)
          omega
      subst hce'
      refine ⟨hzero, ?_⟩
      have q1 := src_add (u := s) ha hsn hj
      have q2 := (hrm c hc16).2.1
      rw [hnn] at q2
      rw [q1, if_neg (by omega)]
      unfold loN at d1
      omega
    · rw [decide_eq_false hd] at hnew
      exact absurd hnew (by decide)
theorem Ready.whole {f : Int} {m : Nat} {l : List Pl} {a : Nat} (h : Ready f m l a) {w : Sp} (hn : ∀ y ∈ l, y.u ≠ w.1) (hu : isU w.1 = true) (h1 : 1 ≤ w.2) (h2 : w.2 ≤ f) (hc : w.2.toNat ≤ rmN f m l (curN (rmN f m l))) :
    Ready f m (addU l ⟨w.1, w.2, (curN (rmN f m l) : Int), []⟩) a ∧ (∀ c, c < 16 → rmN f m (addU l ⟨w.1, w.2, (curN (rmN f m l) : Int), []⟩) c = rmN f m l c - (if c = curN (rmN f m l) then w.2.toNat else 0)) := by
  have hR := h.right
  have hn' : ∀ y ∈ l, y.u ≠ (⟨w.1, w.2, (curN (rmN f m l) : Int), []⟩ : Pl).u := hn
  obtain ⟨hk15, hk0, _⟩ := cur_some (r := rmN f m l)
  have hk16 : curN (rmN f m l) < 16 := by omega
  have hrk := hR.rm hk16
  have hrb : roomB f m l w.2 (curN (rmN f m l)) = true := roomB_iff.2 ⟨hrk.2.2 (by omega), by omega⟩
  have hRn := hR.put hn hu h1 h2 hk16 hrb
  have hrooms : ∀ c, c < 16 → rmN f m (addU l ⟨w.1, w.2, (curN (rmN f m l) : Int), []⟩) c = rmN f m l c - (if c = curN (rmN f m l) then w.2.toNat else 0) := fun c hc16 => by
    have q0 := (hR.rm hc16).1
    have q1 := put_load (d := l) (x := ⟨w.1, w.2, (curN (rmN f m l) : Int), []⟩) rfl (posU l w.1) (c : Int)
    generalize curN (rmN f m l) = k at *
    by_cases hb : m.testBit c = true
    · have q3 := rm_yes (f := f) (l := l) hc16 hb
      rw [rm_yes hc16 hb, addU_eq hn', q1]
      by_cases ec : c = k
      · rw [if_pos ec, if_pos (show ((k : Nat) : Int) = (c : Int) by omega)]
        show (f - (loadN l (c : Int) + w.2)).toNat = _
        omega
      · rw [if_neg ec, if_neg (show ¬ ((k : Nat) : Int) = (c : Int) by omega)]
        omega
    · rw [rm_no hc16 hb, rm_no hc16 hb, Nat.zero_sub]
  refine ⟨⟨hRn, h.tick, fun c hc16 hr0 j hj hw => ?_, ?_⟩, hrooms⟩
  · rw [hrooms c hc16] at hr0 ⊢
    rw [addU_eq hn', put_pcs rfl] at hw
    obtain ⟨z1, z2⟩ := h.win c hc16 (by omega) j hj hw
    refine ⟨fun i hi => ?_, by omega⟩
    rw [hrooms i (by omega), z1 i hi]
    omega
  · obtain ⟨b, b1, b2, b3, b4⟩ := h.bound
    refine ⟨b, b1, b2, ?_, fun i hi => ?_⟩
    · rw [addU_eq hn', put_splits]
      exact b3
    · rw [hrooms i (by omega), b4 i hi]
      omega
end Go.Proofs.Ytkgkanmccaodfaa

/-
  Wants along the chain, one behind the other; why they don't go.
  Conditions: none.
-/
set_option linter.unusedVariables false
namespace Go.Proofs.Ytkgkanmccaodfaa

noncomputable def chS (f : Int) (m : Nat) (st : List Pl × Nat) (w : Sp) : List Pl × Nat :=
  if w.2.toNat ≤ rmN f m st.1 (curN (rmN f m st.1)) then (addU st.1 ⟨w.1, w.2, (curN (rmN f m st.1) : Int), []⟩, st.2)
  else (addU st.1 (splP f m st.1 st.2 w), (st.2 + w.2.toNat) % f.toNat)
noncomputable def chT (f : Int) (m : Nat) (l : List Pl) (ws : List Sp) : List Pl × Nat := ws.foldl (chS f m) (l, 0)
theorem chT_snoc (f : Int) (m : Nat) (l : List Pl) (ws : List Sp) (w : Sp) : chT f m l (ws ++ [w]) = chS f m (chT f m l ws) w := by unfold chT; rw [List.foldl_append]; rfl
theorem chT_take {f : Int} {m : Nat} {l : List Pl} {ws : List Sp} {k : Nat} {w : Sp} (h : ws[k]? = some w) : chT f m l (ws.take (k + 1)) = chS f m (chT f m l (ws.take k)) w := by
  rw [List.take_add_one, h, Option.toList_some, chT_snoc]
theorem chS_whole {f : Int} {m a : Nat} {l : List Pl} {w : Sp} (h : w.2.toNat ≤ rmN f m l (curN (rmN f m l))) : chS f m (l, a) w = (addU l ⟨w.1, w.2, (curN (rmN f m l) : Int), []⟩, a) := if_pos h
theorem chS_split {f : Int} {m a : Nat} {l : List Pl} {w : Sp} (h : ¬ w.2.toNat ≤ rmN f m l (curN (rmN f m l))) : chS f m (l, a) w = (addU l (splP f m l a w), (a + w.2.toNat) % f.toNat) := if_neg h

theorem exP_get {α : Type} {xs : List α} {k : Nat} (h : k < xs.length) : ∃ x, xs[k]? = some x := ⟨xs[k], List.getElem?_eq_getElem h⟩
theorem rise_step {m : Nat} : ∀ {q : List Pc} {last : Int} {k : Nat} {y z : Pc}, Rise m last q → q[k]? = some y → q[k + 1]? = some z → y.c < z.c
  | [], _, _, _, _, _, h, _ => by simp at h
  | x :: q, last, 0, y, z, hr, hy, hz => by
    rw [List.getElem?_cons_zero] at hy
    rw [List.getElem?_cons_succ] at hz
    cases q with
    | nil => simp at hz
    | cons v q =>
      rw [List.getElem?_cons_zero] at hz
      rw [← Option.some.inj hy, ← Option.some.inj hz]
      exact hr.2.2.2.2.1
  | x :: q, last, k + 1, y, z, hr, hy, hz => by
    rw [List.getElem?_cons_succ] at hy hz
    exact rise_step hr.2.2.2 hy hz
/-- What holds behind some wants. -/
structure ChInv (f : Int) (m : Nat) (l0 : List Pl) (ws : List Sp) (st : List Pl × Nat) : Prop where
  ready : Ready f m st.1 st.2
  units : ∀ x ∈ st.1, x ∈ l0 ∨ ∃ w ∈ ws, w.1 = x.u
  keep : ∀ x ∈ l0, x ∈ st.1
  len : st.1.length = l0.length + ws.length
  got : ∀ w ∈ ws, ∃ x ∈ st.1, x.u = w.1 ∧ x.s = w.2
  ok : (∀ x ∈ l0, PlOk x ∧ x.ps.length ≤ 1000) → ∀ x ∈ st.1, PlOk x ∧ x.ps.length ≤ 1000
  full : ∀ x ∈ st.1, ∀ (k : Nat) (y : Pc), k + 1 < x.ps.length → x.ps[k]? = some y → roomN f m st.1 y.c = 0
  free : freeT f m st.1 16 + sumS ws = freeT f m l0 16
theorem room_zero {f : Int} {m : Nat} {l : List Pl} (h : Right f m l) {c : Nat} (hc : c < 16) : roomN f m l (c : Int) = 0 ↔ rmN f m l c = 0 := by
  have := (h.rm hc).1
  omega
theorem free_add {f : Int} {m : Nat} {l : List Pl} {x : Pl} (h : Right f m l) (h' : Right f m (addU l x)) (hn : ∀ y ∈ l, y.u ≠ x.u) : freeT f m (addU l x) 16 + x.s = freeT f m l 16 := by
  have h1 := h.all
  have h2 := h'.all
  rw [addU_eq hn] at h2 ⊢
  have h3 := put_sum (fun l => sumS (wantsT l)) (fun a b => by show sumS (wantsT (a ++ b)) = _; unfold wantsT; rw [List.map_append, sumS_append]) l x (posU l x.u)
  rw [show sumS (wantsT [x]) = x.s by simp [wantsT, sumS]] at h3
  omega
theorem ChInv.add {f : Int} {m : Nat} {l0 : List Pl} {ws : List Sp} {l : List Pl} {a a' : Nat} {w : Sp} {x : Pl} (h : ChInv f m l0 ws (l, a)) (hn : ∀ y ∈ l, y.u ≠ x.u) (hxu : x.u = w.1) (hxs : x.s = w.2) (hxok : PlOk x ∧ x.ps.length ≤ 1000)
    (hr : Ready f m (addU l x) a') (hle : ∀ c, c < 16 → rmN f m (addU l x) c ≤ rmN f m l c) (hfull : ∀ (k : Nat) (y : Pc), k + 1 < x.ps.length → x.ps[k]? = some y → roomN f m (addU l x) y.c = 0) : ChInv f m l0 (ws ++ [w]) (addU l x, a') := by
  have hmem : ∀ y, y ∈ addU l x ↔ y = x ∨ y ∈ l := fun y => by rw [addU_eq hn]; exact putPl_mem
  have hR : Right f m l := h.ready.right
  have hR' : Right f m (addU l x) := hr.right
  refine ⟨hr, fun y hy => ?_, fun y hy => (hmem y).2 (.inr (h.keep y hy)), ?_, fun v hv => ?_, fun ho y hy => ?_, fun z hz k y hk hy => ?_, ?_⟩
  · rcases (hmem y).1 hy with rfl | hy
    · exact .inr ⟨w, by simp, hxu.symm⟩
    · rcases h.units y hy with hl | ⟨v, hv, he⟩
      · exact .inl hl
      · exact .inr ⟨v, List.mem_append_left _ hv, he⟩
  · show (addU l x).length = _
    rw [addU_eq hn, putPl_length, List.length_append, List.length_singleton]
    have := h.len
    simp only at this
    omega
  · rcases List.mem_append.1 hv with hv | hv
    · obtain ⟨y, hy, h1⟩ := h.got v hv
      exact ⟨y, (hmem y).2 (.inr hy), h1⟩
    · rw [List.mem_singleton.1 hv]
      exact ⟨x, (hmem x).2 (.inl rfl), hxu, hxs⟩
  · rcases (hmem y).1 hy with rfl | hy
    · exact hxok
    · exact h.ok ho y hy
  · show roomN f m (addU l x) y.c = 0
    rcases (hmem z).1 hz with rfl | hz
    · exact hfull k y hk hy
    · have h1 := h.full z hz k y hk hy
      have h2 := hasC_range ((hR.place z hz).has y (List.mem_of_getElem? hy))
      obtain ⟨c, hc⟩ := Int.eq_ofNat_of_zero_le h2.1
      have hc16 : c < 16 := by omega
      simp only at h1
      rw [hc] at h1 ⊢
      rw [room_zero hR hc16] at h1
      rw [room_zero hR' hc16]
      have := hle c hc16
      omega
  · have h1 := free_add hR hR' hn
    have h2 := h.free
    show freeT f m (addU l x) 16 + sumS (ws ++ [w]) = _
    rw [sumS_append, show sumS [w] = w.2 by simp [sumS]]
    simp only at h2
    omega
theorem ChInv.next {f : Int} {m : Nat} {l0 : List Pl} {ws : List Sp} {st : List Pl × Nat} {w : Sp} (h : ChInv f m l0 ws st) (hw : WOk f (ws ++ [w])) (h0 : ∀ x ∈ l0, x.u ≠ w.1) (hs : w.2 ≤ freeT f m st.1 16) : ChInv f m l0 (ws ++ [w]) (chS f m st w) := by
  obtain ⟨l, a⟩ := st
  obtain ⟨hu, h1, h2⟩ := hw.all w (by simp)
  have hn : ∀ y ∈ l, y.u ≠ w.1 := fun y hy => by
    rcases h.units y hy with hl | ⟨v, hv, he⟩
    · exact h0 y hl
    · rw [← he]
      exact hw.last v hv
  have hf64 := h.ready.right.f64
  have hur := isU_range hu
  have hrd : Ready f m l a := h.ready
  by_cases hc : w.2.toNat ≤ rmN f m l (curN (rmN f m l))
  · rw [chS_whole hc]
    obtain ⟨k1, k2⟩ := hrd.whole hn hu h1 h2 hc
    have hcur := (cur_some (r := rmN f m l)).1
    refine h.add (x := ⟨w.1, w.2, (curN (rmN f m l) : Int), []⟩) hn rfl rfl ⟨⟨?_, ?_, ?_, (fun y hy => by cases hy)⟩, by simp⟩ k1 (fun c hc16 => by rw [k2 c hc16]; omega) (fun k y hk => by simp at hk)
    · show Int64 w.1
      unfold Int64; omega
    · show Int64 w.2
      unfold Int64; omega
    · show Int64 (curN (rmN f m l) : Int)
      unfold Int64; omega
  · rw [chS_split hc]
    have hsum : w.2.toNat ≤ sumTo (rmN f m l) 16 := by
      have q := rm_free hrd.right 16 (Nat.le_refl _)
      simp only at hs
      omega
    obtain ⟨k1, k2, k3⟩ := hrd.split hn hu h1 h2 hc hsum
    have hx : ∀ y ∈ (splP f m l a w).ps, ∃ c, c < 16 ∧ takeN (rmN f m l) w.2.toNat c ≠ 0 ∧ y = pcAt f.toNat a (rmN f m l) w.2.toNat c := fun y hy => pcsA_mem hy
    have hlen : (splP f m l a w).ps.length ≤ 16 := pcsA_few
    have hmem' : splP f m l a w ∈ addU l (splP f m l a w) := by
      rw [addU_eq (x := splP f m l a w) hn]
      exact putPl_mem.2 (.inl rfl)
    have hps := (k1.right.place _ hmem').split (fun e => by rw [e] at k3; exact absurd k3 (by decide))
    refine h.add (x := splP f m l a w) hn rfl rfl ⟨⟨?_, ?_, ?_, fun y hy => ?_⟩, by omega⟩ k1 (fun c hc16 => by rw [k2 c hc16]; omega) (fun k y hk hy => ?_)
    · show Int64 w.1
      unfold Int64; omega
    · show Int64 w.2
      unfold Int64; omega
    · show Int64 0
      unfold Int64; omega
    · obtain ⟨c, hc16, _, rfl⟩ := hx y hy
      refine ⟨?_, round_lt _ _ _⟩
      show Int64 (c : Int)
      unfold Int64; omega
    · obtain ⟨z, hz⟩ := exP_get hk
      have hyz := rise_step hps.rise hy hz
      obtain ⟨c, hc16, hc0, rfl⟩ := hx y (List.mem_of_getElem? hy)
      obtain ⟨c', hc16', hc0', rfl⟩ := hx z (List.mem_of_getElem? hz)
      have hcc : c < c' := by
        have : (c : Int) < (c' : Int) := hyz
        omega
      show roomN f m (addU l (splP f m l a w)) (c : Int) = 0
      rw [room_zero k1.right hc16, k2 c hc16, take_all (by
        have q1 := sumTo_mono (rmN f m l) (show c + 1 ≤ c' by omega)
        unfold takeN at hc0'
        omega)]
      omega
/-- Wants that may go along the chain. -/
structure ChGoes (f : Int) (m : Nat) (l : List Pl) (ws : List Sp) : Prop where
  goes : Goes f m l ws
  whole : splitsN l = 0
  room : sumS ws ≤ freeT f m l 16
theorem no_pieces : ∀ {l : List Pl}, splitsN l = 0 → pcsOf l = [] ∧ ∀ x ∈ l, x.ps = []
  | [], _ => ⟨rfl, fun x hx => by cases hx⟩
  | y :: l, h => by
    unfold splitsN at h
    rw [List.countP_cons] at h
    have hy : y.ps = [] := by
      by_cases e : y.ps.length = 0
      · exact List.eq_nil_of_length_eq_zero e
      · rw [decide_eq_false e] at h
        simp at h
    have hl : splitsN l = 0 := by unfold splitsN; omega
    obtain ⟨h1, h2⟩ := no_pieces hl
    refine ⟨by rw [pcsOf_cons, hy, h1]; rfl, fun x hx => ?_⟩
    rcases List.mem_cons.1 hx with rfl | hx
    · exact hy
    · exact h2 x hx
theorem low_core {m : Nat} (h : 0 < coresN m) : ∃ b, b < 16 ∧ m.testBit b = true ∧ ∀ i, i < b → m.testBit i = false := by
  have key : ∀ k : Nat, 0 < cntT m k → ∃ b, b < k ∧ m.testBit b = true ∧ ∀ i, i < b → m.testBit i = false := by
    intro k
    induction k with
    | zero => intro h; rw [cntT_zero] at h; omega
    | succ k ih =>
      intro h
      by_cases h0 : 0 < cntT m k
      · obtain ⟨b, h1, h2⟩ := ih h0
        exact ⟨b, by omega, h2⟩
      · have hz : ∀ i, i < k → m.testBit i = false := fun i hi => by
          cases hb : m.testBit i with
          | false => rfl
          | true =>
            have := cntT_lt m hi hb
            omega
        refine ⟨k, by omega, ?_, hz⟩
        rw [cntT_succ] at h
        cases hb : m.testBit k with
        | true => rfl
        | false => rw [hb] at h; simp at h; omega
  exact key 16 h
theorem ChGoes.start {f : Int} {m : Nat} {l : List Pl} {ws : List Sp} (h : ChGoes f m l ws) : ChInv f m l [] (l, 0) := by
  have hR := h.goes.right
  obtain ⟨p1, p2⟩ := no_pieces h.whole
  obtain ⟨b, b1, b2, b3⟩ := low_core (m := m) (Nat.lt_of_le_of_lt (Nat.zero_le _) hR.few)
  have hf := hR.f2
  refine ⟨⟨hR, by show 0 < f.toNat; omega, fun c _ _ j _ hw => ?_, b, b1, b2, by show splitsN l ≤ _; rw [h.whole]; exact Nat.zero_le _, fun i hi => ?_⟩, fun x hx => .inl hx, fun x hx => hx, rfl, (fun w hw => by cases hw), fun ho => ho, fun x hx k y hk => ?_, by simp [sumS]⟩
  · simp only at hw
    rw [p1, nOn_nil] at hw
    exact absurd hw (Nat.lt_irrefl _)
  · exact rm_no (by omega) (by rw [b3 i hi]; decide)
  · rw [p2 x hx] at hk
    exact absurd hk (by simp)
theorem sum_take_le : ∀ (ws : List Sp) (k : Nat), (∀ w ∈ ws, 0 ≤ w.2) → sumS (ws.take k) ≤ sumS ws := fun ws k h => by
  have e : sumS (ws.take k) + sumS (ws.drop k) = sumS ws := by rw [← sumS_append, List.take_append_drop]
  have h2 : ∀ l : List Sp, (∀ v ∈ l, 0 ≤ v.2) → 0 ≤ sumS l := fun l => by
    induction l with
    | nil => intro _; exact Int.le_refl _
    | cons y l ih =>
      intro h0
      have := ih fun v hv => h0 v (by simp [hv])
      have := h0 y (by simp)
      rw [sumS]; omega
  have := h2 (ws.drop k) fun v hv => h v (List.mem_of_mem_drop hv)
  omega
theorem ChGoes.inv {f : Int} {m : Nat} {l : List Pl} {ws : List Sp} (h : ChGoes f m l ws) : ∀ k : Nat, k ≤ ws.length → ChInv f m l (ws.take k) (chT f m l (ws.take k))
  | 0, _ => h.start
  | k + 1, hk => by
    have ih := h.inv k (by omega)
    have hx : ws[k]? = some ws[k] := List.getElem?_eq_getElem (by omega)
    have hW := (WOk.of_chk h.goes.chk).2
    have e : ws.take (k + 1) = ws.take k ++ [ws[k]] := by rw [List.take_add_one, hx, Option.toList_some]
    have hle := sum_take_le ws (k + 1) fun w hw => by have := hW.all w hw; omega
    rw [chT_take hx, e]
    rw [e, sumS_append, show sumS [ws[k]] = ws[k].2 by simp [sumS]] at hle
    refine ih.next ?_ (fun x hx' => anyB_no h.goes.none x hx' ws[k] (List.getElem_mem (by omega))) ?_
    · rw [← e]
      exact WOk.front (b := ws.drop (k + 1)) (by rw [List.take_append_drop]; exact hW)
    · have h1 := ih.free
      have h2 := h.room
      omega
theorem ChGoes.all {f : Int} {m : Nat} {l : List Pl} {ws : List Sp} (h : ChGoes f m l ws) : ChInv f m l ws (chT f m l ws) := by
  have := h.inv ws.length (Nat.le_refl _)
  rwa [List.take_length] at this
/-- Why wants don't go. -/
def Why19 (f : Int) (m : Nat) (l : List Pl) (ws : List Sp) (E : Int) : Prop :=
  (E ≠ 0 ∧ Why f m l ws E) ∨ (Why f m l ws 0 ∧ splitsN l ≠ 0 ∧ E = 15) ∨ (Why f m l ws 0 ∧ splitsN l = 0 ∧ freeT f m l 16 < sumS ws ∧ E = 12) ∨ (ChGoes f m l ws ∧ E = 0)
theorem Why19.unique {f : Int} {m : Nat} {l : List Pl} {ws : List Sp} {E E' : Int} (h : Why19 f m l ws E) (h' : Why19 f m l ws E') : E = E' := by
  rcases h with ⟨h0, h1⟩ | ⟨h1, h2, rfl⟩ | ⟨h1, h2, h3, rfl⟩ | ⟨h1, rfl⟩ <;> rcases h' with ⟨k0, k1⟩ | ⟨k1, k2, rfl⟩ | ⟨k1, k2, k3, rfl⟩ | ⟨k1, rfl⟩
  · exact h1.unique k1
  · exact absurd (h1.unique k1) h0
  · exact absurd (h1.unique k1) h0
  · exact absurd (h1.unique k1.goes.why) h0
  · exact absurd (k1.unique h1) k0
  · rfl
  · exact absurd k2 h2
  · exact absurd k1.whole h2
  · exact absurd (k1.unique h1) k0
  · exact absurd h2 k2
  · rfl
  · have := k1.room; omega
  · exact absurd (k1.unique h1.goes.why) k0
  · exact absurd h1.whole k2
  · have := h1.room; omega
  · rfl
theorem Why19.zero {f : Int} {m : Nat} {l : List Pl} {ws : List Sp} (h : Why19 f m l ws 0) : ChGoes f m l ws := by
  rcases h with ⟨h0, _⟩ | ⟨_, _, h0⟩ | ⟨_, _, _, h0⟩ | ⟨h1, _⟩
  · exact absurd rfl h0
  · exact absurd h0 (by decide)
  · exact absurd h0 (by decide)
  · exact h1
end Go.Proofs.Ytkgkanmccaodfaa

/-
  Why wants don't go along the chain: the units of a plan and the wants behind them, checked together; the sum of wants.
  Conditions: none.
-/
set_option linter.unusedVariables false
namespace Go.Proofs.Ytkgkanmccaodfaa

theorem chkL_append {f : Int} : ∀ (a b r : List Sp), chkL f b (a ++ r) = if chkL f b a = 0 then chkL f (b ++ a) r else chkL f b a
  | [], b, r => by rw [List.nil_append, List.append_nil, chkL, if_pos rfl]
  | y :: a, b, r => by
    rw [List.cons_append, chkL, chkL]
    by_cases h : chkE f b y = 0
    · rw [if_pos h, if_pos h, chkL_append a (b ++ [y]) r, List.append_assoc]
      rfl
    · rw [if_neg h, if_neg h, if_neg h]
/-- Wants that are right by themselves, behind others: all that can be wrong is a unit that is there twice. -/
theorem chkL_behind {f : Int} (b : List Sp) : ∀ (r a : List Sp), chkL f a r = 0 → chkL f (b ++ a) r = if (r.any fun w => b.any fun s => decide (s.1 = w.1)) = true then 11 else 0
  | [], a, _ => by rw [chkL, List.any_nil, if_neg (by decide)]
  | y :: r, a, h => by
    rw [chkL] at h
    by_cases he : chkE f a y = 0
    · rw [if_pos he] at h
      obtain ⟨h1, h2, h3, h4⟩ := chkE_zero.1 he
      rw [List.any_cons, chkL]
      cases hb : b.any fun s => decide (s.1 = y.1) with
      | true =>
        have e : chkE f (b ++ a) y = 11 := chkE_two h1 (by omega) (by omega) (by rw [List.any_append, hb]; rfl)
        rw [e, if_neg (by decide), Bool.true_or, if_pos rfl]
      | false =>
        have e : chkE f (b ++ a) y = 0 := chkE_zero.2 ⟨h1, h2, h3, by rw [List.any_append, hb, h4]; rfl⟩
        rw [e, if_pos rfl, Bool.false_or, List.append_assoc]
        exact chkL_behind b r (a ++ [y]) h
    · rw [if_neg he] at h
      exact absurd h he
theorem any_found (l : List Pl) (u : Int) : ((wantsT l).any fun s => decide (s.1 = u)) = (findU l u).isSome := by
  unfold findU wantsT
  rw [List.any_map]
  show (l.any fun x => decide (x.u = u)) = _
  cases h : (l.find? fun y => decide (y.u = u)) with
  | none =>
    rw [List.find?_eq_none] at h
    rw [List.any_eq_false.2 fun x hx => h x hx]
    rfl
  | some x =>
    have h1 := List.mem_of_find?_eq_some h
    have h2 := List.find?_some h
    rw [List.any_eq_true.2 ⟨x, h1, h2⟩]
    rfl
theorem Right.chk {f : Int} {m : Nat} {l : List Pl} (h : Right f m l) : chkT f (wantsT l) = 0 :=
  (units_iff.2 ⟨⟨h.f2, h.f64⟩, fun x hx => ⟨(h.place x hx).unit, (h.place x hx).s1, (h.place x hx).s2⟩, h.asc⟩).chk
theorem chk_both {f : Int} {m : Nat} {l : List Pl} {ws : List Sp} (h : Right f m l) (hw : chkT f ws = 0) : chkT f (wantsT l ++ ws) = if anyB l ws = true then 11 else 0 := by
  have hf : ¬ (f < 2 ∨ 64 < f) := by have := h.f2; have := h.f64; omega
  have h1 := h.chk
  unfold chkT at h1 hw ⊢
  rw [if_neg hf] at h1 hw ⊢
  rw [chkL_append, if_pos h1, List.nil_append]
  have h2 := chkL_behind (wantsT l) ws [] hw
  rw [List.append_nil] at h2
  rw [h2]
  unfold anyB
  simp only [any_found]
theorem tot_small : ∀ (ws : List Sp) (t : Int), (∀ w ∈ ws, 0 ≤ w.2 ∧ w.2 ≤ 64) → 0 ≤ t → t + 64 * (ws.length : Int) ≤ 1000000 → totL t ws = some (t + sumS ws)
  | [], t, _, _, _ => by rw [totL, sumS, Int.add_zero]
  | y :: r, t, h, h0, h1 => by
    have hy := h y (by simp)
    rw [List.length_cons] at h1
    have ha : addO t y.2 = some (t + y.2) := if_pos ⟨by omega, by omega⟩
    rw [totL_some ha, tot_small r (t + y.2) (fun w hw => h w (by simp [hw])) (by omega) (by omega), sumS, Int.add_assoc]
theorem tot_chk {f : Int} {ws : List Sp} (h : chkT f ws = 0) : totT ws = some (sumS ws) := by
  obtain ⟨hf, hall, _⟩ := WOk.of_chk h
  have h2 := few_wants h
  have := tot_small ws 0 (fun w hw => by have := hall w hw; omega) (by omega) (by omega)
  rwa [Int.zero_add] at this
end Go.Proofs.Ytkgkanmccaodfaa

/-
  A whole plan over lists of wants: who is left over by first fit is split along the chain.
  Conditions: none.
-/
set_option linter.unusedVariables false
namespace Go.Proofs.Ytkgkanmccaodfaa

/-! ### Wants of a plan, as a row in whatever order -/
theorem wantsT_append (a b : List Pl) : wantsT (a ++ b) = wantsT a ++ wantsT b := List.map_append
theorem putPl_perm (d : List Pl) (x : Pl) (k : Nat) : (putPl d x k).Perm (x :: d) := by
  unfold putPl
  rw [List.append_assoc]
  refine List.perm_middle.trans (List.Perm.cons x ?_)
  show (d.take k ++ d.drop k).Perm d
  rw [List.take_append_drop]
theorem addU_wants {d : List Pl} {x : Pl} (h : ∀ y ∈ d, y.u ≠ x.u) : (wantsT (addU d x)).Perm ((x.u, x.s) :: wantsT d) := by
  rw [addU_eq h]
  exact (putPl_perm d x _).map fun y => (y.u, y.s)
theorem sum_perm {a b : List Sp} (h : a.Perm b) : sumS a = sumS b := by
  induction h with
  | nil => rfl
  | cons x _ ih => rw [sumS, sumS, ih]
  | swap x y l => rw [sumS, sumS, sumS, sumS]; omega
  | trans _ _ h1 h2 => exact h1.trans h2
/-- Wants that are right by themselves, the other way round. -/
theorem WOk.chk {f : Int} {ws : List Sp} (hf : 2 ≤ f) (hf2 : f ≤ 64) (h : WOk f ws) : chkT f ws = 0 := by
  unfold chkT
  rw [if_neg (by omega), chkL_zero]
  intro i y hy
  obtain ⟨h1, h2, h3⟩ := h.all y (List.mem_of_getElem? hy)
  rw [chkE_zero]
  refine ⟨h1, h2, h3, ?_⟩
  rw [List.nil_append, List.any_eq_false]
  intro s hs
  obtain ⟨j, hj, hsj⟩ := List.mem_take_iff_getElem.1 hs
  obtain ⟨hi, rfl⟩ := List.getElem?_eq_some_iff.1 hy
  have hn := h.two
  rw [List.Nodup, List.pairwise_iff_getElem] at hn
  have := hn j i (by rw [List.length_map]; omega) (by rw [List.length_map]; exact hi) (by omega)
  rw [List.getElem_map, List.getElem_map, hsj] at this
  simpa using this
theorem WOk.sub {f : Int} {a b : List Sp} (h : WOk f b) (hs : a.Sublist b) : WOk f a := ⟨fun w hw => h.all w (hs.subset hw), h.two.sublist (hs.map _)⟩
theorem chk_perm {f : Int} {a b : List Sp} (h : a.Perm b) : chkT f a = 0 ↔ chkT f b = 0 :=
  ⟨fun h0 => by obtain ⟨⟨h1, h2⟩, h3⟩ := WOk.of_chk h0; exact (h3.perm h.symm).chk h1 h2, fun h0 => by obtain ⟨⟨h1, h2⟩, h3⟩ := WOk.of_chk h0; exact (h3.perm h).chk h1 h2⟩
theorem sort_perm_eq {a b : List Sp} (h : a.Perm b) : sortT a = sortT b := sort_eq (sortT_sorted a) ((sortT_perm a).trans h)

/-! ### First fit: everybody is placed or left over -/
structure FitAll (l0 : List Pl) (ws : List Sp) (st : List Pl × List Sp) : Prop where
  perm : (wantsT st.1 ++ st.2).Perm (wantsT l0 ++ ws)
  sub : st.2.Sublist ws
  split : splitsN st.1 = splitsN l0
theorem splits_add {d : List Pl} {x : Pl} (h : ∀ y ∈ d, y.u ≠ x.u) (hx : x.ps = []) : splitsN (addU d x) = splitsN d := by
  rw [addU_eq h, put_splits, hx]
  rfl
theorem fit_each {f : Int} {m : Nat} {l0 : List Pl} (hr : Right f m l0) {ws : List Sp} (hw : WOk f ws) (h0 : ∀ x ∈ l0, ∀ w ∈ ws, x.u ≠ w.1) : ∀ k : Nat, k ≤ ws.length → FitAll l0 (ws.take k) (fitT f m l0 (ws.take k))
  | 0, _ => ⟨List.Perm.refl _, List.Sublist.refl _, rfl⟩
  | k + 1, hk => by
    have ih := fit_each hr hw h0 k (by omega)
    have hI := fit_inv hr hw h0 k (by omega)
    have hx : ws[k]? = some ws[k] := List.getElem?_eq_getElem (by omega)
    have e : ws.take (k + 1) = ws.take k ++ [ws[k]] := by rw [List.take_add_one, hx, Option.toList_some]
    have hwk : WOk f (ws.take k ++ [ws[k]]) := by
      rw [← e]
      exact WOk.front (b := ws.drop (k + 1)) (by rw [List.take_append_drop]; exact hw)
    rw [fitT_take hx, e]
    generalize ws[k] = w at *
    generalize fitT f m l0 (ws.take k) = st at *
    have hn : ∀ y ∈ st.1, y.u ≠ w.1 := fun y hy => by
      rcases hI.units y hy with hl | ⟨v, hv, he⟩
      · exact h0 y hl w (List.mem_of_getElem? hx)
      · rw [← he]
        exact hwk.last v hv
    cases hf : firstR f m st.1 w.2 with
    | none =>
      rw [fitS_none hf]
      refine ⟨?_, ih.sub.append (List.Sublist.refl _), ih.split⟩
      show (wantsT st.1 ++ (st.2 ++ [w])).Perm _
      rw [← List.append_assoc, ← List.append_assoc]
      exact ih.perm.append_right [w]
    | some c =>
      rw [fitS_some hf]
      have hn' : ∀ y ∈ st.1, y.u ≠ (⟨w.1, w.2, (c : Int), []⟩ : Pl).u := hn
      refine ⟨?_, ih.sub.trans (List.sublist_append_left _ _), ?_⟩
      · show (wantsT (addU st.1 ⟨w.1, w.2, (c : Int), []⟩) ++ st.2).Perm _
        refine ((addU_wants hn').append_right st.2).trans ?_
        rw [← List.append_assoc]
        refine (List.Perm.cons w ih.perm).trans ?_
        exact (List.perm_append_singleton w _).symm
      · show splitsN (addU st.1 ⟨w.1, w.2, (c : Int), []⟩) = _
        rw [splits_add hn' rfl]
        exact ih.split
theorem fit_every {f : Int} {m : Nat} {l0 : List Pl} (hr : Right f m l0) {ws : List Sp} (hw : WOk f ws) (h0 : ∀ x ∈ l0, ∀ w ∈ ws, x.u ≠ w.1) : FitAll l0 ws (fitT f m l0 ws) := by
  have := fit_each hr hw h0 ws.length (Nat.le_refl _)
  rwa [List.take_length] at this

/-! ### Along the chain: everybody is placed -/
theorem ch_each {f : Int} {m : Nat} {l : List Pl} {ws : List Sp} (h : ChGoes f m l ws) : ∀ k : Nat, k ≤ ws.length → (wantsT (chT f m l (ws.take k)).1).Perm (wantsT l ++ ws.take k)
  | 0, _ => by rw [List.take_zero, List.append_nil]; exact List.Perm.refl _
  | k + 1, hk => by
    have ih := ch_each h k (by omega)
    have hI := h.inv k (by omega)
    have hx : ws[k]? = some ws[k] := List.getElem?_eq_getElem (by omega)
    have e : ws.take (k + 1) = ws.take k ++ [ws[k]] := by rw [List.take_add_one, hx, Option.toList_some]
    have hW := (WOk.of_chk h.goes.chk).2
    have hwk : WOk f (ws.take k ++ [ws[k]]) := by
      rw [← e]
      exact WOk.front (b := ws.drop (k + 1)) (by rw [List.take_append_drop]; exact hW)
    rw [chT_take hx, e]
    have hm := List.mem_of_getElem? hx
    generalize ws[k] = w at *
    obtain ⟨l', a, hst⟩ : ∃ l' a, chT f m l (ws.take k) = (l', a) := ⟨_, _, rfl⟩
    rw [hst] at ih hI ⊢
    simp only at ih
    have hn : ∀ y ∈ l', y.u ≠ w.1 := fun y hy => by
      rcases hI.units y hy with hl | ⟨v, hv, he⟩
      · exact anyB_no h.goes.none y hl w hm
      · rw [← he]
        exact hwk.last v hv
    have key : ∀ x : Pl, x.u = w.1 → x.s = w.2 → (wantsT (addU l' x)).Perm (wantsT l ++ (ws.take k ++ [w])) := fun x h1 h2 => by
      refine (addU_wants (fun y hy => by rw [h1]; exact hn y hy)).trans ?_
      rw [h1, h2, ← List.append_assoc]
      refine (List.Perm.cons _ ih).trans ?_
      exact (List.perm_append_singleton w _).symm
    by_cases hc : w.2.toNat ≤ rmN f m l' (curN (rmN f m l'))
    · rw [chS_whole hc]
      exact key _ rfl rfl
    · rw [chS_split hc]
      exact key _ rfl rfl
theorem ch_every {f : Int} {m : Nat} {l : List Pl} {ws : List Sp} (h : ChGoes f m l ws) : (wantsT (chT f m l ws).1).Perm (wantsT l ++ ws) := by
  have := ch_each h ws.length (Nat.le_refl _)
  rwa [List.take_length] at this

/-! ### A whole plan -/
noncomputable def fullT (f : Int) (m : Nat) (ws : List Sp) : List Pl := (chT f m (fitT f m [] (sortT ws)).1 (fitT f m [] (sortT ws)).2).1
/-- Why there is none. -/
def Why20 (f : Int) (m : Nat) (ws : List Sp) (E : Int) : Prop :=
  (¬ Right f m [] ∧ E = 30) ∨ (Right f m [] ∧ chkT f ws ≠ 0 ∧ E = chkT f ws) ∨ (Right f m [] ∧ chkT f ws = 0 ∧ f * (coresN m : Int) < sumS ws ∧ E = 12) ∨ (Right f m [] ∧ chkT f ws = 0 ∧ sumS ws ≤ f * (coresN m : Int) ∧ E = 0)
structure FullOk (f : Int) (m : Nat) (ws : List Sp) : Prop where
  right : Right f m []
  chk : chkT f ws = 0
  sum : sumS ws ≤ f * (coresN m : Int)
theorem Why20.unique {f : Int} {m : Nat} {ws : List Sp} {E E' : Int} (h : Why20 f m ws E) (h' : Why20 f m ws E') : E = E' := by
  rcases h with ⟨h1, rfl⟩ | ⟨h1, h2, rfl⟩ | ⟨h1, h2, h3, rfl⟩ | ⟨h1, h2, h3, rfl⟩ <;> rcases h' with ⟨k1, rfl⟩ | ⟨k1, k2, rfl⟩ | ⟨k1, k2, k3, rfl⟩ | ⟨k1, k2, k3, rfl⟩ <;> first | rfl | exact absurd h1 k1 | exact absurd k1 h1 | exact absurd k2 h2 | exact absurd h2 k2 | (exfalso; omega)
theorem Why20.zero {f : Int} {m : Nat} {ws : List Sp} (h : Why20 f m ws 0) : FullOk f m ws := by
  rcases h with ⟨_, h0⟩ | ⟨_, h2, h0⟩ | ⟨_, _, _, h0⟩ | ⟨h1, h2, h3, _⟩
  · exact absurd h0 (by decide)
  · exact absurd h0.symm h2
  · exact absurd h0 (by decide)
  · exact ⟨h1, h2, h3⟩
theorem FullOk.why {f : Int} {m : Nat} {ws : List Sp} (h : FullOk f m ws) : Why20 f m ws 0 := .inr (.inr (.inr ⟨h.right, h.chk, h.sum, rfl⟩))
theorem free_none {f : Int} {m : Nat} (h : Right f m []) : freeT f m [] 16 = f * (coresN m : Int) := by
  have := h.all
  rw [show sumS (wantsT []) = 0 from rfl] at this
  omega
theorem FullOk.inv {f : Int} {m : Nat} {ws : List Sp} (h : FullOk f m ws) : FitInv f m [] (sortT ws) (fitT f m [] (sortT ws)) :=
  fit_all h.right ((WOk.of_chk h.chk).2.perm (sortT_perm ws)) fun x hx => by cases hx
theorem FullOk.each {f : Int} {m : Nat} {ws : List Sp} (h : FullOk f m ws) : FitAll [] (sortT ws) (fitT f m [] (sortT ws)) :=
  fit_every h.right ((WOk.of_chk h.chk).2.perm (sortT_perm ws)) fun x hx => by cases hx
theorem FullOk.goes {f : Int} {m : Nat} {ws : List Sp} (h : FullOk f m ws) : ChGoes f m (fitT f m [] (sortT ws)).1 (fitT f m [] (sortT ws)).2 := by
  have hI := h.inv
  have hE := h.each
  have hW := (WOk.of_chk h.chk).2.perm (sortT_perm ws)
  have hf := (WOk.of_chk h.chk).1
  generalize fitT f m [] (sortT ws) = st at *
  have hp : (wantsT st.1 ++ st.2).Perm (sortT ws) := hE.perm
  have hnd : ((wantsT st.1 ++ st.2).map Prod.fst).Nodup := ((hp.map _).nodup_iff).2 hW.two
  rw [List.map_append] at hnd
  refine ⟨⟨hI.right, (hW.sub hE.sub).chk hf.1 hf.2, ?_⟩, hE.split, ?_⟩
  · unfold anyB
    rw [List.any_eq_false]
    intro w hw hs
    unfold findU at hs
    rw [List.find?_isSome] at hs
    obtain ⟨x, hx, he⟩ := hs
    have he' : x.u = w.1 := by simpa using he
    exact (List.nodup_append.1 hnd).2.2 x.u (List.mem_map.2 ⟨(x.u, x.s), List.mem_map_of_mem (f := fun y : Pl => (y.u, y.s)) hx, rfl⟩) w.1 (List.mem_map_of_mem hw) he'
  · have h1 := hI.right.all
    have h2 := hI.sum
    have h3 := sum_perm (sortT_perm ws)
    have h4 := h.sum
    rw [show sumS (wantsT []) = 0 from rfl] at h2
    omega
/-- What the whole plan is. -/
structure FullIs (f : Int) (m : Nat) (ws : List Sp) (L : List Pl) : Prop where
  right : Right f m L
  perm : (wantsT L).Perm ws
  free : freeT f m L 16 = f * (coresN m : Int) - sumS ws
  ok : ∀ x ∈ L, PlOk x ∧ x.ps.length ≤ 1000
  len : L.length = ws.length
  got : ∀ w ∈ ws, ∃ x, findU L w.1 = some x ∧ x.u = w.1 ∧ x.s = w.2
theorem FullOk.is {f : Int} {m : Nat} {ws : List Sp} (h : FullOk f m ws) : FullIs f m ws (fullT f m ws) := by
  have hI := h.inv
  have hE := h.each
  have hG := h.goes
  have hC := hG.all
  have hP := ch_every hG
  unfold fullT
  generalize fitT f m [] (sortT ws) = st at *
  obtain ⟨L, a, hst⟩ : ∃ L a, chT f m st.1 st.2 = (L, a) := ⟨_, _, rfl⟩
  rw [hst] at hC hP ⊢
  simp only at hP
  have hR : Right f m L := hC.ready.right
  have hp : (wantsT L).Perm ws := hP.trans (hE.perm.trans (sortT_perm ws))
  refine ⟨hR, hp, ?_, fun x hx => hC.ok (hI.ok fun y hy => by cases hy) x hx, ?_, fun w hw => ?_⟩
  · have h1 := hR.all
    have h2 := sum_perm hp
    show freeT f m L 16 = _
    omega
  · have := hp.length_eq
    rw [wantsT_length] at this
    exact this
  · have hm := hp.mem_iff.2 hw
    obtain ⟨x, hx, he⟩ := List.mem_map.1 hm
    have e1 : x.u = w.1 := by rw [← he]
    have e2 : x.s = w.2 := by rw [← he]
    exact ⟨x, by rw [← e1]; exact hR.found hx, e1, e2⟩
/-- Nobody is split where it is sure. -/
theorem FullOk.sure {f : Int} {m : Nat} {ws : List Sp} (h : FullOk f m ws) {c : Int} (hs : sureT f c ws = true) (hm : (coresN m : Int) = c) : splitsN (fullT f m ws) = 0 := by
  have h1 := sure_none hs hm h.right
  have hE := h.each
  unfold fullT
  rw [h1]
  exact hE.split
/-- The order of the wants does not matter. -/
theorem full_perm {f : Int} {m : Nat} {a b : List Sp} (h : a.Perm b) : fullT f m a = fullT f m b := by unfold fullT; rw [sort_perm_eq h]
theorem FullOk.perm {f : Int} {m : Nat} {a b : List Sp} (h : FullOk f m a) (hp : a.Perm b) : FullOk f m b := ⟨h.right, (chk_perm hp).1 h.chk, by rw [← sum_perm hp]; exact h.sum⟩

/-! ### Made anew -/
theorem rising_unique : ∀ {a b : List Sp}, a.Pairwise (fun x y => x.1 < y.1) → b.Pairwise (fun x y => x.1 < y.1) → a.Perm b → a = b
  | [], b, _, _, h => (List.nil_perm.1 h).symm
  | x :: a, [], _, _, h => by have := h.length_eq; simp at this
  | x :: a, y :: b, ha, hb, h => by
    obtain ⟨a1, a2⟩ := List.pairwise_cons.1 ha
    obtain ⟨b1, b2⟩ := List.pairwise_cons.1 hb
    have e : x = y := by
      rcases List.mem_cons.1 (h.mem_iff.1 List.mem_cons_self) with e | hx
      · exact e
      · rcases List.mem_cons.1 (h.mem_iff.2 List.mem_cons_self) with e | hy
        · exact e.symm
        · have h1 := b1 x hx
          have h2 := a1 y hy
          omega
    subst e
    rw [rising_unique a2 b2 (h.cons_inv)]
theorem Right.rising {f : Int} {m : Nat} {l : List Pl} (h : Right f m l) : (wantsT l).Pairwise fun x y => x.1 < y.1 := by
  have := h.pairs
  unfold wantsT
  rw [List.pairwise_map]
  exact this
theorem Right.nil {f : Int} {m : Nat} {l : List Pl} (h : Right f m l) : Right f m [] := by
  refine ⟨h.f2, h.f64, h.m0, h.m16, fun x hx => (by cases hx), fun i x y hx => (by simp at hx), fun c _ t _ => Nat.zero_le _, ?_, fun c _ _ => ?_⟩
  · exact Nat.lt_of_le_of_lt (Nat.zero_le _) h.few
  · have : loadN [] (c : Int) = 0 := by
      unfold loadN
      rw [show pcsOf [] = [] from rfl, winN_nil]
      rfl
    have := h.f2
    omega
theorem Right.again {f : Int} {m : Nat} {l : List Pl} (h : Right f m l) : FullOk f m (wantsT l) := by
  refine ⟨h.nil, h.chk, ?_⟩
  have h1 := h.all
  have h2 := rm_free h 16 (Nat.le_refl _)
  omega
theorem Right.wants {f : Int} {m : Nat} {l : List Pl} (h : Right f m l) : wantsT (fullT f m (wantsT l)) = wantsT l :=
  rising_unique h.again.is.right.rising h.rising h.again.is.perm
theorem Right.twice {f : Int} {m : Nat} {l : List Pl} (h : Right f m l) : fullT f m (wantsT (fullT f m (wantsT l))) = fullT f m (wantsT l) := by rw [h.wants]

/-! ### The fewest cores -/
/-- The fewest cores that are enough, 0: more than 16. -/
def leastT (f : Int) (ws : List Sp) : Nat := ((List.range 17).find? fun c : Nat => decide (1 ≤ c ∧ sumS ws ≤ (c : Int) * f)).getD 0
theorem least_some {f : Int} {ws : List Sp} {c : Nat} (h1 : 1 ≤ c) (h2 : c ≤ 16) (h3 : sumS ws ≤ (c : Int) * f) (h4 : ∀ j : Nat, 1 ≤ j → j < c → (j : Int) * f < sumS ws) : leastT f ws = c := by
  unfold leastT
  have e : ((List.range 17).find? fun c : Nat => decide (1 ≤ c ∧ sumS ws ≤ (c : Int) * f)) = some c := by
    rw [List.find?_range_eq_some]
    refine ⟨decide_eq_true ⟨h1, h3⟩, List.mem_range.2 (by omega), fun j hj => ?_⟩
    rw [Bool.not_eq_true', decide_eq_false_iff_not]
    rintro ⟨k1, k2⟩
    have := h4 j k1 hj
    omega
  rw [e]
  rfl
theorem least_none {f : Int} {ws : List Sp} (h : ∀ j : Nat, 1 ≤ j → j ≤ 16 → (j : Int) * f < sumS ws) : leastT f ws = 0 := by
  unfold leastT
  have e : ((List.range 17).find? fun c : Nat => decide (1 ≤ c ∧ sumS ws ≤ (c : Int) * f)) = none := by
    rw [List.find?_range_eq_none]
    intro j hj
    rw [Bool.not_eq_true', decide_eq_false_iff_not]
    rintro ⟨k1, k2⟩
    have := h j k1 (by omega)
    omega
  rw [e]
  rfl
end Go.Proofs.Ytkgkanmccaodfaa

/-
  A woven place is right: the plan with it is.
  Conditions: none.
-/
set_option linter.unusedVariables false
namespace Go.Proofs.Ytkgkanmccaodfaa

/-! ### Pieces by masks -/
def mkP (gv : Nat → Nat) : Nat → List Pc
  | 0 => []
  | k + 1 => mkP gv k ++ (if gv k = 0 then [] else [⟨(k : Int), gv k⟩])
theorem mk_mem {gv : Nat → Nat} {y : Pc} : ∀ {k : Nat}, y ∈ mkP gv k → ∃ c, c < k ∧ gv c ≠ 0 ∧ y = ⟨(c : Int), gv c⟩
  | 0, h => by cases h
  | k + 1, h => by
    rw [mkP, List.mem_append] at h
    rcases h with h | h
    · obtain ⟨c, h1, h2, h3⟩ := mk_mem h
      exact ⟨c, by omega, h2, h3⟩
    · split at h
      · cases h
      · rename_i hz
        rw [List.mem_singleton] at h
        exact ⟨k, by omega, hz, h⟩
theorem mk_on (gv : Nat → Nat) (c t : Nat) : ∀ k : Nat, nOn (mkP gv k) (c : Int) t = (decide (c < k) && (gv c).testBit t).toNat
  | 0 => rfl
  | k + 1 => by
    rw [mkP, nOn_append, mk_on gv c t k]
    by_cases hz : gv k = 0
    · rw [if_pos hz, nOn_nil, Nat.add_zero]
      by_cases hc : c = k
      · subst hc
        rw [hz, Nat.zero_testBit, Bool.and_false, Bool.and_false]
      · rw [show decide (c < k + 1) = decide (c < k) from decide_eq_decide.2 (by omega)]
    · rw [if_neg hz]
      have h1 : nOn [(⟨(k : Int), gv k⟩ : Pc)] (c : Int) t = (decide (c = k) && (gv k).testBit t).toNat := by
        have := nOn_snoc [] (⟨(k : Int), gv k⟩ : Pc) (c : Int) t
        rw [List.nil_append, nOn_nil, Nat.zero_add] at this
        rw [this]
        unfold onB
        congr 2
        exact decide_eq_decide.2 (by show (k : Int) = (c : Int) ↔ c = k; omega)
      rw [h1]
      by_cases hc : c = k
      · subst hc
        simp
      · rw [show decide (c < k + 1) = decide (c < k) from decide_eq_decide.2 (by omega), decide_eq_false hc]
        simp
theorem mk_any (gv : Nat → Nat) (t : Nat) : ∀ k : Nat, nAny (mkP gv k) t = sumTo (fun c => ((gv c).testBit t).toNat) k
  | 0 => rfl
  | k + 1 => by
    rw [mkP, nAny_append, mk_any gv t k, sumTo]
    by_cases hz : gv k = 0
    · rw [if_pos hz, hz, Nat.zero_testBit]
      rfl
    · rw [if_neg hz]
      have := nAny_snoc [] (⟨(k : Int), gv k⟩ : Pc) t
      rw [List.nil_append] at this
      rw [this]
      show _ + (0 + _) = _
      rw [Nat.zero_add]
theorem mk_count (gv : Nat → Nat) (k : Nat) : sumTo (nAny (mkP gv k)) 64 = sumTo (fun c => cnt (gv c)) k := by
  have h1 : sumTo (nAny (mkP gv k)) 64 = sumTo (fun t => sumTo (fun c => ((gv c).testBit t).toNat) k) 64 := sumTo_congr fun t _ => mk_any gv t k
  rw [h1, sumTo_swap]
  exact sumTo_congr fun c _ => (cnt_sum (gv c)).symm
theorem mk_on_sum (gv : Nat → Nat) {c k : Nat} (hc : c < k) : sumTo (nOn (mkP gv k) (c : Int)) 64 = cnt (gv c) := by
  rw [cnt_sum]
  exact sumTo_congr fun t _ => by rw [mk_on, decide_eq_true hc, Bool.true_and]
theorem mk_last (gv : Nat → Nat) (k : Nat) : ((mkP gv k).getLast?.map Pc.c).getD (-1) < (k : Int) := by
  cases h : (mkP gv k).getLast? with
  | none => show (-1 : Int) < _; omega
  | some y =>
    obtain ⟨c, h1, _, rfl⟩ := mk_mem (List.mem_of_getLast? h)
    show ((c : Nat) : Int) < _
    omega
theorem mk_rise {m : Nat} {gv : Nat → Nat} (hm : ∀ c, c < 16 → gv c ≠ 0 → m.testBit c = true) : ∀ k : Nat, k ≤ 16 → Rise m (-1) (mkP gv k)
  | 0, _ => trivial
  | k + 1, hk => by
    have ih := mk_rise hm k (by omega)
    rw [mkP]
    by_cases hz : gv k = 0
    · rw [if_pos hz, List.append_nil]
      exact ih
    · rw [if_neg hz, rise_snoc]
      exact ⟨ih, by rw [hasC_nat (by omega)]; exact hm k (by omega) hz, mk_last gv k, hz⟩
theorem mk_few (gv : Nat → Nat) : ∀ k : Nat, (mkP gv k).length ≤ k
  | 0 => Nat.le_refl _
  | k + 1 => by
    have := mk_few gv k
    rw [mkP, List.length_append]
    split
    · show _ + 0 ≤ _; omega
    · show _ + 1 ≤ _; omega
theorem mk_zero {gv : Nat → Nat} : ∀ k : Nat, (mkP gv k).length = 0 → sumTo (fun c => cnt (gv c)) k = 0
  | 0, _ => rfl
  | k + 1, h => by
    rw [mkP, List.length_append] at h
    rw [sumTo, mk_zero k (by omega)]
    by_cases hz : gv k = 0
    · rw [hz, cnt_zero]
    · rw [if_neg hz, List.length_singleton] at h
      omega
theorem mk_one {gv : Nat → Nat} {B : Nat} : ∀ k : Nat, (∀ c, c < k → cnt (gv c) ≤ B) → (mkP gv k).length ≤ 1 → sumTo (fun c => cnt (gv c)) k ≤ B
  | 0, _, _ => Nat.zero_le _
  | k + 1, hb, h => by
    rw [mkP, List.length_append] at h
    by_cases hz : gv k = 0
    · rw [sumTo, hz, cnt_zero]
      exact mk_one k (fun c hc => hb c (by omega)) (by omega)
    · rw [if_neg hz, List.length_singleton] at h
      rw [sumTo, mk_zero k (by omega), Nat.zero_add]
      exact hb k (by omega)

/-! ### The gaps, the place -/
def gapT (f : Int) (m : Nat) (l : List Pl) (c : Nat) : Nat := setP fun t => m.testBit c && decide (t < f.toNat) && !(winN (pcsOf l) (c : Int)).testBit t
theorem gap_bit {f : Int} {m : Nat} {l : List Pl} {c t : Nat} (h : (gapT f m l c).testBit t = true) : m.testBit c = true ∧ t < f.toNat ∧ t < 64 ∧ nOn (pcsOf l) (c : Int) t = 0 := by
  unfold gapT at h
  rw [setP_bit, Bool.and_eq_true, decide_eq_true_iff, Bool.and_eq_true, Bool.and_eq_true, decide_eq_true_iff] at h
  obtain ⟨h1, ⟨h2, h3⟩, h4⟩ := h
  refine ⟨h2, h3, h1, ?_⟩
  rw [winN_bit h1, Bool.not_eq_true', decide_eq_false_iff_not] at h4
  omega
def wovenS (f : Int) (m : Nat) (l : List Pl) (s : Int) : WSt := wvT (gapT f m l) (rmN f m l) s.toNat f.toNat
def wovenP (f : Int) (m : Nat) (l : List Pl) (w : Sp) : Pl := ⟨w.1, w.2, 0, mkP (wovenS f m l w.2).gv 16⟩
theorem sum_one {b : Nat → Bool} (h : ∀ c d, b c = true → b d = true → c = d) : ∀ k : Nat, sumTo (fun c => (b c).toNat) k ≤ 1 ∧ (0 < sumTo (fun c => (b c).toNat) k → ∃ c, c < k ∧ b c = true)
  | 0 => ⟨Nat.zero_le _, fun h => by rw [sumTo] at h; omega⟩
  | k + 1 => by
    obtain ⟨h1, h2⟩ := sum_one h k
    rw [sumTo]
    cases hk : b k with
    | false =>
      rw [Bool.toNat_false, Nat.add_zero]
      exact ⟨h1, fun h0 => by obtain ⟨c, hc, hb⟩ := h2 h0; exact ⟨c, by omega, hb⟩⟩
    | true =>
      rw [Bool.toNat_true]
      have : sumTo (fun c => (b c).toNat) k = 0 := by
        rcases Nat.eq_zero_or_pos (sumTo (fun c => (b c).toNat) k) with h0 | h0
        · exact h0
        · obtain ⟨c, hc, hb⟩ := h2 h0
          have := h c k hb hk
          omega
      exact ⟨by omega, fun _ => ⟨k, by omega, hk⟩⟩

set_option maxHeartbeats 1000000 in
theorem weave_right {f : Int} {m : Nat} {l : List Pl} (hR : Right f m l) {w : Sp} (hn : ∀ y ∈ l, y.u ≠ w.1) (hu : isU w.1 = true) (h1 : 1 ≤ w.2) (h2 : w.2 ≤ f) (hno : ∀ c, c < 16 → rmN f m l c < w.2.toNat)
    (hfew : splitsN l + 1 < coresN m) (hmost : w.2.toNat ≤ mostT (gapT f m l) (rmN f m l) 0) :
    Right f m (addU l (wovenP f m l w)) ∧ 2 ≤ (wovenP f m l w).ps.length ∧ freeT f m (addU l (wovenP f m l w)) 16 = freeT f m l 16 - w.2 := by
  have hf2 := hR.f2
  have hf64 := hR.f64
  obtain ⟨hI, hz⟩ := wv_all (gm := gapT f m l) (r := rmN f m l) hmost (show f.toNat ≤ 64 by omega) fun c _ t _ ht => by
    rw [← Bool.not_eq_true]
    intro hb
    have := (gap_bit hb).2.1
    omega
  have hps : (wovenP f m l w).ps = mkP (wovenS f m l w.2).gv 16 := rfl
  have hxu : (wovenP f m l w).u = w.1 := rfl
  have hxs : (wovenP f m l w).s = w.2 := rfl
  have hxc : (wovenP f m l w).c = 0 := rfl
  have hI' : WInv (gapT f m l) (rmN f m l) w.2.toNat f.toNat (wovenS f m l w.2) := hI
  have hz' : (wovenS f m l w.2).lack = 0 := hz
  generalize wovenP f m l w = x at *
  generalize wovenS f m l w.2 = st at *
  clear hI hz
  obtain ⟨_, hsub, hone, hroom, hsum⟩ := hI'
  rw [hz', Nat.add_zero] at hsum
  have hn' : ∀ y ∈ l, y.u ≠ x.u := by rw [hxu]; exact hn
  have htwo : 2 ≤ x.ps.length := by
    rcases Nat.lt_or_ge x.ps.length 2 with hlt | hge
    · exfalso
      rw [hps] at hlt
      have := mk_one (gv := st.gv) (B := w.2.toNat - 1) 16 (fun c hc => by have := hroom c; have := hno c hc; omega) (by omega)
      omega
    · exact hge
  have hne : x.ps ≠ [] := fun e => by rw [e] at htwo; exact absurd htwo (by decide)
  have hmeet : ∀ c : Nat, c < 16 → ∀ j, j < 64 → nOn (pcsOf (addU l x)) (c : Int) j ≤ 1 := fun c hc16 j hj => by
    rw [addU_eq hn', put_nOn, hps, mk_on, decide_eq_true hc16, Bool.true_and]
    cases hb : (st.gv c).testBit j with
    | false => exact hR.apart c hc16 j hj
    | true =>
      have := (gap_bit (hsub c j hb).2.1).2.2.2
      rw [this]
      exact Nat.le_refl _
  have hload : ∀ c : Nat, c < 16 → loadN (addU l x) (c : Int) = loadN l (c : Int) + (cnt (st.gv c) : Int) := fun c hc16 => by
    unfold loadN
    rw [cnt_win (hmeet c hc16), cnt_win (hR.apart c hc16), addU_eq hn', put_wholes hne]
    have : sumTo (nOn (pcsOf (putPl l x (posU l x.u))) (c : Int)) 64 = sumTo (nOn (pcsOf l) (c : Int)) 64 + cnt (st.gv c) := by
      rw [← mk_on_sum st.gv hc16, ← sumTo_add]
      exact sumTo_congr fun t _ => by rw [put_nOn, hps]
    rw [this]
    omega
  have hasc := put_asc hR.pairs hn'
  have hbit : ∀ c, c < 16 → st.gv c ≠ 0 → m.testBit c = true := fun c hc h0 => by
    have : ∃ j, (st.gv c).testBit j = true := Nat.exists_testBit_of_ne_zero h0
    obtain ⟨j, hj⟩ := this
    exact (gap_bit (hsub c j hj).2.1).1
  have hRn : Right f m (addU l x) := by
    refine ⟨hf2, hf64, hR.m0, hR.m16, fun y hy => ?_, fun i z y hx hy => ?_, hmeet, ?_, fun c hc16 hb => ?_⟩
    · rw [addU_eq hn'] at hy
      rcases putPl_mem.1 hy with hy | hy
      · subst hy
        refine ⟨by rw [hxu]; exact hu, by rw [hxs]; exact h1, by rw [hxs]; exact h2, fun e => absurd e hne, fun _ => ⟨hxc, htwo, ?_, ?_, ?_⟩⟩
        · rw [hps]
          exact mk_rise hbit 16 (Nat.le_refl _)
        · intro t ht
          rw [hps, mk_any]
          obtain ⟨k1, k2⟩ := sum_one (b := fun c => (st.gv c).testBit t) (fun c d hc hd => hone c d t hc hd) 16
          refine ⟨k1, fun h0 => ?_⟩
          obtain ⟨c, hc, hb⟩ := k2 h0
          have := (hsub c t hb).2.2
          omega
        · rw [hps, mk_count, hsum, hxs]
          omega
      · exact hR.place y hy
    · rw [addU_eq hn'] at hx hy
      exact hasc.next hx hy
    · rw [addU_eq hn', put_splits, decide_eq_false (show ¬ x.ps.length = 0 by omega)]
      show splitsN l + 1 < _
      exact hfew
    · rw [hload c hc16]
      have q1 := (hR.rm hc16).1
      have q2 := hroom c
      unfold roomN at q1
      rw [hasC_nat hc16, if_pos hb] at q1
      omega
  refine ⟨hRn, htwo, ?_⟩
  have q1 := hR.all
  have q2 := hRn.all
  have q3 := sum_perm (addU_wants hn')
  rw [sumS] at q3
  simp only [hxs] at q3
  omega
end Go.Proofs.Ytkgkanmccaodfaa
