/-
  A ring that rebases is, but for whole numbers, one that never does; what both tell; nobody is far above the floor.
  Conditions: none.
-/
import Derived.Test.YtanchjcifhbllaaRingMath
set_option linter.unusedVariables false
namespace Go.Proofs.Ytanchjcifhbllaa

theorem mul3 (a b c : Nat) : a * b * c = a * c * b := by rw [Nat.mul_assoc, Nat.mul_comm b c, ← Nat.mul_assoc]

/-! ### A pick of the program's keeps its numbers small -/
theorem Fit.rebased {C : Nat} {s : Rg} (h : Fit (C + 1) s) (hC : 0 < C) (q : Nat) (hm : ∀ m ∈ s.l, m.n - q * m.w ≤ C * m.w) (hnum : s.num ≤ C * s.den) : Fit C { s with l := s.l.map (shift q) } := by
  refine ⟨hC, ?_, fun y hy => ?_, h.den0, h.den1, hnum, ?_⟩
  · show (s.l.map _).length ≤ 32
    rw [List.length_map]
    exact h.len
  · obtain ⟨m, hm', rfl⟩ := List.mem_map.1 hy
    obtain ⟨a, b, c, d, _⟩ := h.mem m hm'
    exact ⟨a, b, c, d, hm m hm'⟩
  · have := h.srt
    unfold Sorted at *
    exact List.pairwise_map.2 this
theorem Fit.pickR {s : Rg} (h : Fit s.lim s) {x : Nat × Mb} (hb : best s.l = some x) : Fit s.lim (pickR s x.1 x.2) := by
  obtain ⟨k, m⟩ := x
  obtain ⟨h1, h2, h3⟩ := best_some h.pos hb
  simp only at h1 h2 h3
  obtain ⟨_, _, a, b, c⟩ := h.mem m (List.mem_of_getElem? h1)
  show Fit s.lim (Go.Proofs.Ytanchjcifhbllaa.pickR s k m)
  unfold Go.Proofs.Ytanchjcifhbllaa.pickR
  by_cases hl : s.lim ≤ m.n + 1
  · rw [if_pos hl]
    have h' : Fit (s.lim + 1) (pick0 s k m) := h.pick1 h1
    have hkl := (List.getElem?_eq_some_iff.1 h1).1
    have hmem : ({ m with n := m.n + 1 } : Mb) ∈ (pick0 s k m).l := List.mem_iff_getElem?.2 ⟨k, by show (s.l.set k _)[k]? = _; rw [List.getElem?_set_self hkl]⟩
    have hq : m.n / m.w ≤ wholeN (pick0 s k m) := by
      obtain ⟨z, hz⟩ := best_on h'.pos hmem h2
      obtain ⟨z1, z2, z3⟩ := best_some h'.pos hz
      have hzw := h'.pos z.2 (List.mem_of_getElem? z1)
      have hzl : m.n * z.2.w ≤ z.2.n * m.w := by
        rcases set_mem (List.mem_of_getElem? z1) with e | e
        · rw [e]
          exact Nat.mul_le_mul_right _ (Nat.le_succ _)
        · exact h3 z.2 e z2
      unfold wholeN floorN
      rw [hz]
      show m.n / m.w ≤ z.2.n / z.2.w
      rw [Nat.le_div_iff_mul_le hzw]
      have k1 : m.n / m.w * m.w ≤ m.n := Nat.div_mul_le_self _ _
      have k2 := Nat.mul_le_mul_right z.2.w k1
      rw [mul3] at k2
      exact Nat.le_of_mul_le_mul_right (Nat.le_trans k2 hzl) a
    refine h'.rebased h.cap _ (fun y hy => ?_) h.num
    rcases set_mem hy with rfl | hy
    · show m.n + 1 - wholeN (pick0 s k m) * m.w ≤ s.lim * m.w
      have k1 : m.n / m.w * m.w ≤ wholeN (pick0 s k m) * m.w := Nat.mul_le_mul_right _ hq
      have k2 := Nat.div_add_mod m.n m.w
      have k3 := Nat.mod_lt m.n a
      rw [Nat.mul_comm m.w] at k2
      have k4 : 1 * m.w ≤ s.lim * m.w := Nat.mul_le_mul_right _ h.cap
      omega
    · obtain ⟨_, _, _, _, e⟩ := h.mem y hy
      exact Nat.le_trans (Nat.sub_le _ _) e
  · rw [if_neg hl]
    exact h.pick h1 (by
      have : (m.n + 1) * 1 ≤ s.lim * m.w := Nat.mul_le_mul (by omega) a
      omega)
theorem Fit.pickA {s : Rg} (h : Fit s.lim s) : Fit s.lim (pickA s).2 ∧ (pickA s).2.lim = s.lim := by
  unfold Go.Proofs.Ytanchjcifhbllaa.pickA
  cases hb : best s.l with
  | none => exact ⟨h, rfl⟩
  | some x =>
    refine ⟨h.pickR hb, ?_⟩
    show (Go.Proofs.Ytanchjcifhbllaa.pickR s x.1 x.2).lim = s.lim
    unfold Go.Proofs.Ytanchjcifhbllaa.pickR
    split <;> rfl
theorem Fit.plain {C : Nat} {s : Rg} (h : Fit C s) : Fit (C + 1) (plainA s).2 := by
  unfold plainA
  cases hb : best s.l with
  | none => exact h.more (Nat.le_succ C)
  | some x => exact h.pick1 (best_some h.pos hb).1
theorem int_range {v : Int} {b : Nat} (h : ¬ (v < 1 ∨ (b : Int) < v)) : 1 ≤ v.toNat ∧ v.toNat ≤ b ∧ (v.toNat : Int) = v := by omega
theorem Fit.call {C : Nat} {s : Rg} (h : Fit C s) (kind id w : Int) : Fit C (callA s kind id w).2 ∧ (callA s kind id w).2.lim = s.lim := by
  unfold callA
  split
  · unfold joinA
    split
    · exact ⟨h, rfl⟩
    · rename_i h1
      split
      · exact ⟨h, rfl⟩
      · rename_i h2
        cases hf : findK s.l id with
        | some k => exact ⟨h, rfl⟩
        | none =>
          simp only
          split
          · exact ⟨h, rfl⟩
          · obtain ⟨a, b, c⟩ := int_range (b := 200) h1
            obtain ⟨a', b', c'⟩ := int_range (b := 1000) h2
            exact ⟨h.join a b a' b' (fun x hx e => findK_none hf x hx (by rw [e]; exact c)) (by omega), rfl⟩
  · split
    · unfold leaveA
      cases hf : findK s.l id with
      | none => exact ⟨h, rfl⟩
      | some k => exact ⟨h.leave k, rfl⟩
    · split
      · unfold blockA
        cases hf : findK s.l id with
        | none => exact ⟨h, rfl⟩
        | some k =>
          obtain ⟨m, hm, _⟩ := findK_some hf
          simp only [memK_at hm]
          split
          · exact ⟨h.block hm, rfl⟩
          · exact ⟨h, rfl⟩
      · split
        · unfold wakeA
          cases hf : findK s.l id with
          | none => exact ⟨h, rfl⟩
          | some k =>
            obtain ⟨m, hm, _⟩ := findK_some hf
            simp only [memK_at hm]
            split
            · exact ⟨h, rfl⟩
            · exact ⟨h.wake hm, rfl⟩
        · split
          · unfold weighA
            cases hf : findK s.l id with
            | none => exact ⟨h, rfl⟩
            | some k =>
              obtain ⟨m, hm, _⟩ := findK_some hf
              simp only [memK_at hm]
              split
              · exact ⟨h, rfl⟩
              · rename_i h2
                obtain ⟨a', b', c'⟩ := int_range (b := 1000) h2
                exact ⟨h.weigh hm a' b', rfl⟩
          · exact ⟨h, rfl⟩

/-! ### Whole numbers taken from all passes -/
structure Sim (K : Nat) (S P : Rg) : Prop where
  l : P.l = S.l.map (shift K)
  on : ∀ m ∈ S.l, m.on = true → K * m.w ≤ m.n
  last : best S.l = none → K * S.den ≤ S.num ∧ P.num = S.num - K * S.den ∧ P.den = S.den
theorem Sim.zero (s : Rg) (L : Nat) : Sim 0 s { s with lim := L } := by
  refine ⟨?_, fun m _ _ => by omega, fun _ => ⟨by omega, by simp, rfl⟩⟩
  show s.l = s.l.map (shift 0)
  have : shift 0 = id := by funext m; cases m; simp [shift]
  rw [this, List.map_id]
def shiftB (K : Nat) (x : Nat × Mb) : Nat × Mb := (x.1, shift K x.2)
theorem less_shift {K : Nat} {a b : Mb} (ha : K * a.w ≤ a.n) (hb : K * b.w ≤ b.n) : lessM (shift K a) (shift K b) = lessM a b := by
  unfold lessM shift
  simp only
  rw [Nat.sub_mul, Nat.sub_mul]
  have e : K * b.w * a.w = K * a.w * b.w := mul3 _ _ _
  have h1 : K * a.w * b.w ≤ a.n * b.w := Nat.mul_le_mul_right _ ha
  have h2 : K * b.w * a.w ≤ b.n * a.w := Nat.mul_le_mul_right _ hb
  rw [e] at h2 ⊢
  rw [Bool.eq_iff_iff]
  simp only [decide_eq_true_eq]
  omega
theorem bestGo_shift (K : Nat) : ∀ (l : List Mb) (i : Nat) (b : Option (Nat × Mb)), (∀ m ∈ l, m.on = true → K * m.w ≤ m.n) → (∀ y, b = some y → K * y.2.w ≤ y.2.n) →
    bestGo (l.map (shift K)) i (b.map (shiftB K)) = (bestGo l i b).map (shiftB K)
  | [], i, b, _, _ => rfl
  | m :: r, i, b, hl, hb => by
    have hr : ∀ x ∈ r, x.on = true → K * x.w ≤ x.n := fun x hx => hl x (List.mem_cons_of_mem _ hx)
    have ht : takes (shift K m) (b.map (shiftB K)) = takes m b := by
      unfold takes
      show (m.on && _) = (m.on && _)
      cases hon : m.on with
      | false => rfl
      | true =>
        cases b with
        | none => rfl
        | some y => exact congrArg _ (less_shift (hl m (List.mem_cons_self ..) hon) (hb y rfl))
    rw [List.map_cons]
    unfold bestGo
    rw [ht]
    by_cases h : takes m b = true
    · rw [if_pos h, if_pos h]
      have hon : m.on = true := by unfold takes at h; rw [Bool.and_eq_true] at h; exact h.1
      exact bestGo_shift K r (i + 1) (some (i, m)) hr (fun y hy => by injection hy with hy; subst hy; exact hl m (List.mem_cons_self ..) hon)
    · rw [if_neg h, if_neg h]
      exact bestGo_shift K r (i + 1) b hr hb
theorem Sim.best {K : Nat} {S P : Rg} (h : Sim K S P) : Go.Proofs.Ytanchjcifhbllaa.best P.l = (Go.Proofs.Ytanchjcifhbllaa.best S.l).map (shiftB K) := by
  rw [h.l]
  exact bestGo_shift K S.l 0 none h.on (fun y hy => by cases hy)
theorem Sim.floor {K : Nat} {S P : Rg} (h : Sim K S P) (hp : ∀ m ∈ S.l, 0 < m.w) : floorN P = ((floorN S).1 - K * (floorN S).2, (floorN S).2) ∧ K * (floorN S).2 ≤ (floorN S).1 := by
  unfold floorN
  rw [h.best]
  cases hb : Go.Proofs.Ytanchjcifhbllaa.best S.l with
  | none =>
    obtain ⟨h1, h2, h3⟩ := h.last hb
    refine ⟨?_, h1⟩
    show (P.num, P.den) = _
    rw [h2, h3]
  | some x =>
    obtain ⟨k1, k2, _⟩ := best_some hp hb
    exact ⟨rfl, h.on x.2 (List.mem_of_getElem? k1) k2⟩
theorem up_shift {a d K : Nat} (w : Nat) (hd : 0 < d) : upN (a - K * d, d) w = upN (a, d) w - K * w := by
  obtain ⟨h1, h2⟩ := upN_spec (f := (a, d)) w hd
  obtain ⟨k1, k2⟩ := upN_spec (f := (a - K * d, d)) w hd
  simp only at h1 h2 k1 k2
  by_cases hk : K * d ≤ a
  · have e : K * d * w = K * w * d := mul3 _ _ _
    have e2 : K * w * d ≤ a * w := by rw [← e]; exact Nat.mul_le_mul_right _ hk
    have hle : K * w ≤ upN (a, d) w := by
      have : K * w < upN (a, d) w + 1 := mul_lt_of (d := d) (by rw [Nat.add_mul, Nat.one_mul]; omega)
      omega
    refine up_one k1 k2 ?_ ?_
    · rw [Nat.sub_mul, Nat.sub_mul, e]
      omega
    · rw [Nat.sub_mul, Nat.sub_mul, e]
      have : K * w * d ≤ upN (a, d) w * d := Nat.mul_le_mul_right _ hle
      omega
  · have h0 : a - K * d = 0 := by omega
    rw [h0] at k1 k2 ⊢
    have e0 : upN (0, d) w = 0 := by
      have : upN (0, d) w < 1 := mul_lt_of (d := d) (by rw [Nat.one_mul]; simpa using k2)
      omega
    have : upN (a, d) w ≤ K * w := up_le (f := (a, d)) hd (by show a ≤ K * d; omega)
    omega
theorem down_shift {a d K : Nat} (w : Nat) (hd : 0 < d) (hk : K * d ≤ a) : downN (a - K * d, d) w = downN (a, d) w - K * w ∧ K * w ≤ downN (a, d) w := by
  obtain ⟨h1, h2⟩ := downN_spec (f := (a, d)) w hd
  obtain ⟨k1, k2⟩ := downN_spec (f := (a - K * d, d)) w hd
  simp only at h1 h2 k1 k2
  have e : K * d * w = K * w * d := mul3 _ _ _
  have e2 : K * w * d ≤ a * w := by rw [← e]; exact Nat.mul_le_mul_right _ hk
  have hle : K * w ≤ downN (a, d) w := by
    have : K * w < downN (a, d) w + 1 := mul_lt_of (d := d) (by rw [Nat.add_mul, Nat.one_mul]; omega)
    omega
  refine ⟨down_one k1 k2 ?_ ?_, hle⟩
  · rw [Nat.sub_mul, Nat.sub_mul, e]
    omega
  · rw [Nat.sub_mul, Nat.sub_mul, e]
    have : K * w * d ≤ downN (a, d) w * d := Nat.mul_le_mul_right _ hle
    omega
theorem up_low {a d K : Nat} (w : Nat) (hd : 0 < d) (hk : K * d ≤ a) : K * w ≤ upN (a, d) w := Nat.le_trans (down_shift w hd hk).2 (up_down (f := (a, d)) w hd).1
theorem clamp_shift {a d K : Nat} (w n : Nat) (hd : 0 < d) (hk : K * d ≤ a) : clampN (a - K * d, d) w (n - K * w) = clampN (a, d) w n - K * w := by
  obtain ⟨e, h⟩ := down_shift w hd hk
  have u := up_shift (a := a) (K := K) w hd
  have ul := up_low w hd hk
  unfold clampN
  rw [e, u]
  omega
theorem findIdx_map (p q : Mb → Bool) (K : Nat) (h : ∀ m, p (shift K m) = q m) : ∀ l : List Mb, (l.map (shift K)).findIdx? p = l.findIdx? q
  | [] => rfl
  | m :: r => by rw [List.map_cons, List.findIdx?_cons, List.findIdx?_cons, h m, findIdx_map p q K h r]
theorem findK_shift (K : Nat) (l : List Mb) (id : Int) : findK (l.map (shift K)) id = findK l id := findIdx_map _ _ K (fun _ => rfl) l
theorem ins_shift (K : Nat) (l : List Mb) (m : Mb) : (insM l m).map (shift K) = insM (l.map (shift K)) (shift K m) := by
  have hb : bigI (l.map (shift K)) m.id = bigI l m.id := by
    unfold bigI
    rw [findIdx_map _ (fun x => decide (m.id < x.id)) K (fun _ => rfl), List.length_map]
  unfold insM
  show _ = List.take (bigI (l.map (shift K)) m.id) (l.map (shift K)) ++ _ ++ List.drop (bigI (l.map (shift K)) m.id) (l.map (shift K))
  rw [hb, List.map_append, List.map_append, List.map_take, List.map_drop]
  rfl
theorem cut_shift (K : Nat) (l : List Mb) (k : Nat) : (cutAt l k).map (shift K) = cutAt (l.map (shift K)) k := by
  unfold cutAt
  rw [List.map_append, List.map_take, List.map_drop]
theorem best_not {l : List Mb} (hp : ∀ m ∈ l, 0 < m.w) {m : Mb} (hm : m ∈ l) (ho : m.on = true) : best l = none → False := fun h => by
  have := best_none hp h m hm
  rw [ho] at this
  cases this
theorem mem_set {l : List Mb} {k : Nat} {x m : Mb} (hk : l[k]? = some x) : m ∈ l.set k m :=
  List.mem_iff_getElem?.2 ⟨k, List.getElem?_set_self (List.getElem?_eq_some_iff.1 hk).1⟩
theorem Sim.at_ {K : Nat} {S P : Rg} (h : Sim K S P) {k : Nat} {m : Mb} (hk : S.l[k]? = some m) : P.l[k]? = some (shift K m) := by
  rw [h.l, List.getElem?_map, hk]
  rfl
theorem Sim.mem {K : Nat} {S P : Rg} (h : Sim K S P) {k : Nat} {m : Mb} (hk : S.l[k]? = some m) : memK P k = shift K m := memK_at (h.at_ hk)

theorem Sim.join {C K : Nat} {S P : Rg} (h : Sim K S P) (hf : Fit C S) {id w : Nat} (hf' : Fit C (joinR S id w)) : Sim K (joinR S id w) (joinR P id w) := by
  obtain ⟨f1, _, _⟩ := hf.floor
  obtain ⟨e, he⟩ := h.floor hf.pos
  refine ⟨?_, fun m hm ho => ?_, fun hb => ?_⟩
  · show insM P.l ⟨id, w, upN (floorN P) w, true⟩ = (insM S.l ⟨id, w, upN (floorN S) w, true⟩).map (shift K)
    rw [ins_shift, h.l, e, up_shift w f1]
    rfl
  · rcases ins_mem hm with rfl | hm
    · exact up_low w f1 he
    · exact h.on m hm ho
  · exact (best_not hf'.pos (m := ⟨id, w, upN (floorN S) w, true⟩) (by show _ ∈ insM S.l _; unfold insM; simp) rfl hb).elim
theorem Sim.leave {C K : Nat} {S P : Rg} (h : Sim K S P) (hf : Fit C S) (k : Nat) : Sim K (leaveR S k) (leaveR P k) := by
  obtain ⟨e, he⟩ := h.floor hf.pos
  refine ⟨?_, fun m hm ho => h.on m (cut_mem hm) ho, fun _ => ⟨he, ?_, ?_⟩⟩
  · show cutAt P.l k = (cutAt S.l k).map (shift K)
    rw [cut_shift, h.l]
  · show (floorN P).1 = _
    rw [e]; rfl
  · show (floorN P).2 = _
    rw [e]; rfl
theorem Sim.block {C K : Nat} {S P : Rg} (h : Sim K S P) (hf : Fit C S) {k : Nat} {m : Mb} (hk : S.l[k]? = some m) : Sim K (blockR S k m) (blockR P k (shift K m)) := by
  obtain ⟨e, he⟩ := h.floor hf.pos
  refine ⟨?_, fun y hy ho => ?_, fun _ => ⟨he, ?_, ?_⟩⟩
  · show P.l.set k _ = (S.l.set k _).map (shift K)
    rw [List.map_set, h.l]
    rfl
  · rcases set_mem hy with rfl | hy
    · cases ho
    · exact h.on y hy ho
  · show (floorN P).1 = _
    rw [e]; rfl
  · show (floorN P).2 = _
    rw [e]; rfl
theorem Sim.wake {C K : Nat} {S P : Rg} (h : Sim K S P) (hf : Fit C S) {k : Nat} {m : Mb} (hk : S.l[k]? = some m) (hf' : Fit C (wakeR S k m)) : Sim K (wakeR S k m) (wakeR P k (shift K m)) := by
  obtain ⟨f1, _, _⟩ := hf.floor
  obtain ⟨e, he⟩ := h.floor hf.pos
  refine ⟨?_, fun y hy ho => ?_, fun hb => ?_⟩
  · show P.l.set k { shift K m with n := clampN (floorN P) m.w (m.n - K * m.w), on := true } = (S.l.set k _).map (shift K)
    rw [List.map_set, h.l, e, clamp_shift m.w m.n f1 he]
    rfl
  · rcases set_mem hy with rfl | hy
    · exact Nat.le_trans (up_low m.w f1 he) (clamp_in m.w m.n f1).1
    · exact h.on y hy ho
  · exact (best_not hf'.pos (m := { m with n := clampN (floorN S) m.w m.n, on := true }) (mem_set hk) rfl hb).elim
theorem Sim.weigh {C K : Nat} {S P : Rg} (h : Sim K S P) (hf : Fit C S) {k w : Nat} {m : Mb} (hk : S.l[k]? = some m) (hf' : Fit C (weighR S k m w)) : Sim K (weighR S k m w) (weighR P k (shift K m) w) := by
  obtain ⟨f1, _, _⟩ := hf.floor
  obtain ⟨e, he⟩ := h.floor hf.pos
  have hmw := hf.pos m (List.mem_of_getElem? hk)
  have hu : upN (m.n - K * m.w, m.w) w = upN (m.n, m.w) w - K * w := up_shift w hmw
  refine ⟨?_, fun y hy ho => ?_, fun hb => ?_⟩
  · show P.l.set k (weighM P (shift K m) w) = (S.l.set k (weighM S m w)).map (shift K)
    rw [List.map_set, h.l]
    have : weighM P (shift K m) w = shift K (weighM S m w) := by
      unfold weighM
      show Mb.mk _ _ (if m.on = true then clampN (floorN P) w (upN (m.n - K * m.w, m.w) w) else upN (m.n - K * m.w, m.w) w) _ = Mb.mk _ _ ((if m.on = true then clampN (floorN S) w (upN (m.n, m.w) w) else upN (m.n, m.w) w) - K * w) _
      rw [hu, e]
      split
      · rw [clamp_shift w _ f1 he]
        rfl
      · rfl
    rw [this]
  · rcases set_mem hy with rfl | hy
    · have ho' : m.on = true := ho
      show K * w ≤ (if m.on = true then _ else _)
      rw [if_pos ho']
      exact Nat.le_trans (up_low w f1 he) (clamp_in w _ f1).1
    · exact h.on y hy ho
  · cases hs : Go.Proofs.Ytanchjcifhbllaa.best S.l with
    | none => exact h.last hs
    | some x =>
      exfalso
      obtain ⟨x1, x2, _⟩ := best_some hf.pos hs
      by_cases ek : x.1 = k
      · rw [ek, hk] at x1
        injection x1 with x1
        refine best_not hf'.pos (m := weighM S m w) (mem_set hk) ?_ hb
        show m.on = true
        rw [x1]
        exact x2
      · refine best_not hf'.pos (m := x.2) (List.mem_iff_getElem?.2 ⟨x.1, ?_⟩) x2 hb
        show (S.l.set k _)[x.1]? = _
        rw [List.getElem?_set_ne (fun e => ek e.symm)]
        exact x1
theorem Sim.call {C K : Nat} {S P : Rg} (h : Sim K S P) (hf : Fit C S) (kind id w : Int) : (callA P kind id w).1 = (callA S kind id w).1 ∧ Sim K (callA S kind id w).2 (callA P kind id w).2 := by
  have hfk : findK P.l id = findK S.l id := by rw [h.l, findK_shift]
  have hlen : P.l.length = S.l.length := by rw [h.l, List.length_map]
  have HF := (hf.call kind id w).1
  revert HF
  unfold callA
  split
  · unfold joinA
    rw [hfk, hlen]
    split
    · exact fun _ => ⟨rfl, h⟩
    · split
      · exact fun _ => ⟨rfl, h⟩
      · cases hq : findK S.l id with
        | some k => exact fun _ => ⟨rfl, h⟩
        | none =>
          simp only
          split
          · exact fun _ => ⟨rfl, h⟩
          · exact fun HF => ⟨rfl, h.join hf HF⟩
  · split
    · unfold leaveA
      rw [hfk]
      cases hq : findK S.l id with
      | none => exact fun _ => ⟨rfl, h⟩
      | some k => exact fun _ => ⟨rfl, h.leave hf k⟩
    · split
      · unfold blockA
        rw [hfk]
        cases hq : findK S.l id with
        | none => exact fun _ => ⟨rfl, h⟩
        | some k =>
          obtain ⟨m, hm, _⟩ := findK_some hq
          simp only [memK_at hm, h.mem hm]
          show _ → (if m.on = true then _ else _ : Int × Rg).1 = _ ∧ Sim K _ (if m.on = true then _ else _ : Int × Rg).2
          split
          · exact fun _ => ⟨rfl, h.block hf hm⟩
          · exact fun _ => ⟨rfl, h⟩
      · split
        · unfold wakeA
          rw [hfk]
          cases hq : findK S.l id with
          | none => exact fun _ => ⟨rfl, h⟩
          | some k =>
            obtain ⟨m, hm, _⟩ := findK_some hq
            simp only [memK_at hm, h.mem hm]
            show _ → (if m.on = true then _ else _ : Int × Rg).1 = _ ∧ Sim K _ (if m.on = true then _ else _ : Int × Rg).2
            split
            · exact fun _ => ⟨rfl, h⟩
            · exact fun HF => ⟨rfl, h.wake hf hm HF⟩
        · split
          · unfold weighA
            rw [hfk]
            cases hq : findK S.l id with
            | none => exact fun _ => ⟨rfl, h⟩
            | some k =>
              obtain ⟨m, hm, _⟩ := findK_some hq
              simp only [memK_at hm, h.mem hm]
              split
              · exact fun _ => ⟨rfl, h⟩
              · exact fun HF => ⟨rfl, h.weigh hf hm HF⟩
          · exact fun _ => ⟨rfl, h⟩
theorem Sim.pick0 {C K : Nat} {S P : Rg} (h : Sim K S P) (hf : Fit C S) {x : Nat × Mb} (hb : Go.Proofs.Ytanchjcifhbllaa.best S.l = some x) : Sim K (pick0 S x.1 x.2) (pick0 P x.1 (shift K x.2)) := by
  obtain ⟨x1, x2, _⟩ := best_some hf.pos hb
  have hon := h.on x.2 (List.mem_of_getElem? x1) x2
  refine ⟨?_, fun y hy ho => ?_, fun hb' => ?_⟩
  · show P.l.set x.1 _ = (S.l.set x.1 _).map (shift K)
    rw [List.map_set, h.l]
    have : ({ shift K x.2 with n := (shift K x.2).n + 1 } : Mb) = shift K { x.2 with n := x.2.n + 1 } := by
      unfold shift
      simp only
      congr 1
      omega
    rw [this]
  · rcases set_mem hy with rfl | hy
    · exact Nat.le_succ_of_le hon
    · exact h.on y hy ho
  · exact (best_not (hf.pick1 x1).pos (m := { x.2 with n := x.2.n + 1 }) (mem_set x1) x2 hb').elim
theorem Sim.pick {C K : Nat} {S P : Rg} (h : Sim K S P) (hf : Fit C S) : (pickA P).1 = (plainA S).1 ∧ ∃ K', Sim K' (plainA S).2 (pickA P).2 := by
  unfold pickA plainA
  rw [h.best]
  cases hb : Go.Proofs.Ytanchjcifhbllaa.best S.l with
  | none => exact ⟨rfl, K, h⟩
  | some x =>
    refine ⟨rfl, ?_⟩
    show ∃ K', Sim K' (Go.Proofs.Ytanchjcifhbllaa.pick0 S x.1 x.2) (pickR P x.1 (shift K x.2))
    have h0 := h.pick0 hf hb
    have hf0 : Fit (C + 1) (Go.Proofs.Ytanchjcifhbllaa.pick0 S x.1 x.2) := hf.pick1 (best_some hf.pos hb).1
    obtain ⟨x1, x2, _⟩ := best_some hf.pos hb
    unfold pickR
    split
    · obtain ⟨e, he⟩ := h0.floor hf0.pos
      obtain ⟨f1, _, _⟩ := hf0.floor
      generalize hS : Go.Proofs.Ytanchjcifhbllaa.pick0 S x.1 x.2 = S' at *
      generalize hP : Go.Proofs.Ytanchjcifhbllaa.pick0 P x.1 (shift K x.2) = P' at *
      obtain ⟨q, hq⟩ : ∃ q, wholeN P' = q := ⟨_, rfl⟩
      have hq1 : q * (floorN S').2 ≤ (floorN S').1 - K * (floorN S').2 := by
        rw [← hq]
        unfold wholeN
        rw [e]
        exact Nat.div_mul_le_self _ _
      refine ⟨K + q, ?_, fun m hm ho => ?_, fun hb' => ?_⟩
      · show P'.l.map (shift (wholeN P')) = _
        rw [hq, h0.l, List.map_map]
        congr 1
        funext m
        unfold shift
        simp only [Function.comp]
        congr 1
        rw [Nat.add_mul]
        omega
      · obtain ⟨z, hz⟩ := best_on hf0.pos hm ho
        obtain ⟨z1, z2, z3⟩ := best_some hf0.pos hz
        have hfl : floorN S' = (z.2.n, z.2.w) := by unfold floorN; rw [hz]
        rw [hfl] at hq1 f1 he
        simp only at hq1 f1 he
        have k1 : (K + q) * z.2.w ≤ z.2.n := by rw [Nat.add_mul]; omega
        have k2 := Nat.mul_le_mul_right m.w k1
        rw [mul3] at k2
        exact Nat.le_of_mul_le_mul_right (Nat.le_trans k2 (z3 m hm ho)) f1
      · exfalso
        rw [← hS] at hb'
        exact best_not (hf.pick1 x1).pos (m := { x.2 with n := x.2.n + 1 }) (mem_set x1) x2 hb'
    · exact ⟨K, h0⟩

/-! ### Near the floor -/
def Hug (f : Nat × Nat) (m : Mb) : Prop := f.1 * m.w ≤ m.n * f.2 ∧ m.n * f.2 ≤ f.1 * m.w + f.2
def Hugs (s : Rg) : Prop := ∀ m ∈ s.l, m.on = true → Hug (floorN s) m
theorem hugs_of {s : Rg} (hp : ∀ m ∈ s.l, 0 < m.w) {f : Nat × Nat} (hd : 0 < f.2) (h : ∀ m ∈ s.l, m.on = true → Hug f m) : Hugs s := by
  intro m hm ho
  obtain ⟨x, hx⟩ := best_on hp hm ho
  obtain ⟨x1, x2, x3⟩ := best_some hp hx
  have hxm := List.mem_of_getElem? x1
  have hxw := hp x.2 hxm
  have hfl : floorN s = (x.2.n, x.2.w) := by unfold floorN; rw [hx]
  rw [hfl]
  refine ⟨x3 m hm ho, ?_⟩
  show m.n * x.2.w ≤ x.2.n * m.w + x.2.w
  have k1 := (h m hm ho).2
  have k2 := (h x.2 hxm x2).1
  have a1 := Nat.mul_le_mul_right x.2.w k1
  have a2 := Nat.mul_le_mul_right m.w k2
  rw [Nat.add_mul] at a1
  have e1 : m.n * f.2 * x.2.w = m.n * x.2.w * f.2 := mul3 _ _ _
  have e2 : f.1 * m.w * x.2.w = f.1 * x.2.w * m.w := mul3 _ _ _
  have e3 : x.2.n * f.2 * m.w = x.2.n * m.w * f.2 := mul3 _ _ _
  have e4 : f.2 * x.2.w = x.2.w * f.2 := Nat.mul_comm _ _
  refine Nat.le_of_mul_le_mul_right (c := f.2) ?_ hd
  rw [Nat.add_mul]
  omega
theorem hug_clamp {f : Nat × Nat} (w n : Nat) (hd : 0 < f.2) {m : Mb} (hw : m.w = w) (hn : upN f w ≤ m.n ∧ m.n ≤ downN f w + 1) : Hug f m := by
  subst hw
  obtain ⟨a1, a2⟩ := upN_spec m.w hd
  obtain ⟨b1, b2⟩ := downN_spec m.w hd
  have k1 := Nat.mul_le_mul_right f.2 hn.1
  have k2 := Nat.mul_le_mul_right f.2 hn.2
  rw [Nat.add_mul, Nat.one_mul] at k2
  unfold Hug
  omega
theorem hug_up {f : Nat × Nat} (hd : 0 < f.2) (w : Nat) : upN f w ≤ upN f w ∧ upN f w ≤ downN f w + 1 := ⟨Nat.le_refl _, (up_down w hd).2⟩
theorem Hugs.call {C : Nat} {s : Rg} (h : Hugs s) (hf : Fit C s) (kind id w : Int) : Hugs (callA s kind id w).2 := by
  have HF := (hf.call kind id w).1
  obtain ⟨f1, _, _⟩ := hf.floor
  revert HF
  unfold callA
  split
  · unfold joinA
    split
    · exact fun _ => h
    · split
      · exact fun _ => h
      · cases hq : findK s.l id with
        | some k => exact fun _ => h
        | none =>
          simp only
          split
          · exact fun _ => h
          · intro HF
            refine hugs_of HF.pos f1 fun m hm ho => ?_
            rcases ins_mem hm with rfl | hm
            · exact hug_clamp w.toNat 0 f1 rfl (hug_up f1 _)
            · exact h m hm ho
  · split
    · unfold leaveA
      cases hq : findK s.l id with
      | none => exact fun _ => h
      | some k => exact fun HF => hugs_of HF.pos f1 fun m hm ho => h m (cut_mem hm) ho
    · split
      · unfold blockA
        cases hq : findK s.l id with
        | none => exact fun _ => h
        | some k =>
          simp only
          split
          · intro HF
            refine hugs_of HF.pos f1 fun m hm ho => ?_
            rcases set_mem hm with rfl | hm
            · cases ho
            · exact h m hm ho
          · exact fun _ => h
      · split
        · unfold wakeA
          cases hq : findK s.l id with
          | none => exact fun _ => h
          | some k =>
            simp only
            split
            · exact fun _ => h
            · intro HF
              refine hugs_of HF.pos f1 fun m hm ho => ?_
              rcases set_mem hm with rfl | hm
              · exact hug_clamp _ 0 f1 rfl (clamp_in _ _ f1)
              · exact h m hm ho
        · split
          · unfold weighA
            cases hq : findK s.l id with
            | none => exact fun _ => h
            | some k =>
              simp only
              split
              · exact fun _ => h
              · intro HF
                refine hugs_of HF.pos f1 fun m hm ho => ?_
                rcases set_mem hm with rfl | hm
                · refine hug_clamp w.toNat 0 f1 rfl ?_
                  have ho' : (memK s k).on = true := ho
                  show upN _ _ ≤ (if (memK s k).on = true then _ else _) ∧ (if (memK s k).on = true then _ else _) ≤ _
                  rw [if_pos ho']
                  exact clamp_in _ _ f1
                · exact h m hm ho
          · exact fun _ => h
theorem Hugs.plain {C : Nat} {s : Rg} (h : Hugs s) (hf : Fit C s) : Hugs (plainA s).2 := by
  have HF := hf.plain
  obtain ⟨f1, _, _⟩ := hf.floor
  revert HF
  unfold plainA
  cases hb : best s.l with
  | none => exact fun _ => h
  | some x =>
    intro HF
    refine hugs_of HF.pos f1 fun m hm ho => ?_
    have hfl : floorN s = (x.2.n, x.2.w) := by unfold floorN; rw [hb]
    rcases set_mem hm with rfl | hm
    · rw [hfl]
      refine ⟨Nat.mul_le_mul_right _ (Nat.le_succ _), ?_⟩
      show (x.2.n + 1) * x.2.w ≤ x.2.n * x.2.w + x.2.w
      rw [Nat.add_mul, Nat.one_mul]
      exact Nat.le_refl _
    · exact h m hm ho

/-! ### The lead -/
def leadA (s : Rg) (m : Mb) : Nat := m.n * (floorN s).2 - (floorN s).1 * m.w
def leadB (s : Rg) (m : Mb) : Nat := m.w * (floorN s).2
theorem floor_low {C : Nat} {s : Rg} (hf : Fit C s) {m : Mb} (hm : m ∈ s.l) (ho : m.on = true) : (floorN s).1 * m.w ≤ m.n * (floorN s).2 := by
  obtain ⟨x, hx⟩ := best_on hf.pos hm ho
  obtain ⟨_, _, x3⟩ := best_some hf.pos hx
  unfold floorN
  rw [hx]
  exact x3 m hm ho
theorem Sim.lead {C K : Nat} {S P : Rg} (h : Sim K S P) (hf : Fit C S) {m : Mb} (hm : m ∈ S.l) (ho : m.on = true) : leadA P (shift K m) = leadA S m ∧ leadB P (shift K m) = leadB S m := by
  obtain ⟨e, he⟩ := h.floor hf.pos
  have hk := h.on m hm ho
  have hl := floor_low hf hm ho
  unfold leadA leadB
  rw [e]
  refine ⟨?_, rfl⟩
  show (m.n - K * m.w) * (floorN S).2 - ((floorN S).1 - K * (floorN S).2) * m.w = _
  rw [Nat.sub_mul, Nat.sub_mul, mul3 K m.w]
  have k1 : K * (floorN S).2 * m.w ≤ (floorN S).1 * m.w := Nat.mul_le_mul_right _ he
  omega
theorem Hugs.near {C : Nat} {s : Rg} (h : Hugs s) (hf : Fit C s) {m : Mb} (hm : m ∈ s.l) (ho : m.on = true) : leadA s m * m.w ≤ leadB s m := by
  have := (h m hm ho).2
  unfold leadA leadB
  have k : m.n * (floorN s).2 - (floorN s).1 * m.w ≤ (floorN s).2 := by omega
  rw [Nat.mul_comm m.w]
  exact Nat.mul_le_mul_right _ k
end Go.Proofs.Ytanchjcifhbllaa
