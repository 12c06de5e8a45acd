/-
  In numbers: a right command is had of its bytes; what is had of bytes has these; no two right commands have the same bytes.
  Conditions: none.
-/
import Derived.Test.YtnddojngbolbfaaDoorRefCheck
import Derived.Test.YtnddojngbolbfaaDoorEncode
import Derived.Test.YtnddojngbolbfaaDoorDecMath
import Derived.Test.YtnddojngbolbfaaDoorReadMath
set_option linter.unusedVariables false
namespace Go.Proofs.YtnddojngbolbfaaDoor

theorem numT_enc {q : Nat} (hq : q ≤ 2147483647) (ys : List Nat) : numT (enc q ++ ys) 0 2147483647 = (q, ys, 0) := by
  unfold numT
  have hl := lead_read (n := q) (by omega) ys
  have hp := enc_pos q
  rw [if_neg (by simp), hl, if_neg (show ¬ (enc q).length = 0 by omega), if_neg (show ¬ 2147483647 < q by omega)]
  simp
theorem numT_back {bs : List Nat} (hb : ∀ x ∈ bs, x < 256) (h : (numT bs 0 2147483647).2.2 = 0) : (numT bs 0 2147483647).1 ≤ 2147483647 ∧ bs = enc (numT bs 0 2147483647).1 ++ (numT bs 0 2147483647).2.1 := by
  refine ⟨numT_le bs 0 _, ?_⟩
  unfold numT at *
  rw [if_neg (by simp)] at *
  by_cases h0 : (lead 0 0 bs).2 = 0
  · rw [if_pos h0] at h; cases h
  · rw [if_neg h0] at *
    by_cases hm : 2147483647 < (lead 0 0 bs).1
    · rw [if_pos hm] at h; cases h
    · rw [if_neg hm]
      obtain ⟨m, a1, a2, a3, a4, _⟩ := lead_back bs 0 0 _ _ hb rfl h0
      rw [Nat.sub_zero] at a2 a3
      rw [Nat.zero_add, Nat.pow_zero, Nat.mul_one] at a4
      show bs = enc (lead 0 0 bs).1 ++ bs.drop (lead 0 0 bs).2
      rw [a4, ← a3, List.take_append_drop]

theorem rdT_enc {c : Cmd8} {fs : List Nat} (hin : ∀ j ∈ fs, 0 ≤ c j ∧ c j ≤ 2147483647) : ∀ i, i ≤ fs.length → rdT fs (opC (c 0)) (encs (numsC c fs)) i = (onlyC c (fs.take i), encs (numsC c (fs.drop i)), 0)
  | 0, _ => by
    show (opC (c 0), encs (numsC c fs), (0 : Int)) = _
    rw [List.take_zero, onlyC_nil, List.drop_zero]
  | i + 1, h => by
    have hi : i < fs.length := by omega
    have hj : fs[i]? = some fs[i] := List.getElem?_eq_getElem hi
    have hr := hin _ (List.getElem_mem hi)
    have hd : encs (numsC c (fs.drop i)) = enc (c fs[i]).toNat ++ encs (numsC c (fs.drop (i + 1))) := by
      rw [List.drop_eq_getElem_cons hi]
      exact encs_cons _ _
    have hn := numT_enc (q := (c fs[i]).toNat) (by omega) (encs (numsC c (fs.drop (i + 1))))
    unfold rdT
    rw [rdT_enc hin i (by omega)]
    simp only
    rw [hd, hn]
    simp only
    rw [atF_eq hj, ← onlyC_step hj, show (((c fs[i]).toNat : Nat) : Int) = c fs[i] by omega]
theorem rdE_enc {c : Cmd8} {fs : List Nat} (hin : ∀ j ∈ fs, 0 ≤ c j ∧ c j ≤ 2147483647) (i : Nat) (h : i < fs.length) : rdE fs (opC (c 0)) (encs (numsC c fs)) i = 0 := by
  unfold rdE
  rw [rdT_enc hin (i + 1) (by omega)]

theorem cast_op {c : Cmd8} {fs : List Nat} (h : fieldsT (c 0) = some fs) : (((c 0).toNat : Nat) : Int) = c 0 := by
  have := opsT_byte (fieldsT_some h)
  omega
/-- A right command is had of its bytes. -/
theorem decode_encC {c : Cmd8} (h : checkK c = []) : (decodeT (encC c)).2 = [] ∧ eq8 (decodeT (encC c)).1 c = true := by
  obtain ⟨fs, hfs, hin, heq⟩ := right_iff h
  have e : encC c = (c 0).toNat :: encs (numsC c fs) := by unfold encC; rw [hfs]; rfl
  have hd : decodeT (encC c) = (onlyC c fs, []) := by
    rw [e]
    unfold decodeT
    simp only
    rw [cast_op hfs, hfs]
    simp only
    rw [if_neg (by rw [firstK_none (rdE_enc hin)]; simp), rdT_enc hin fs.length (Nat.le_refl _)]
    simp only [List.take_length, List.drop_length]
    rw [if_neg (by simp [numsC, encs])]
  rw [hd]
  exact ⟨rfl, heq⟩

theorem rdT_back {fs r : List Nat} {op : Int} (hnd : fs.Nodup) (hf : ∀ j ∈ fs, 0 < j ∧ j < 8) (hb : ∀ x ∈ r, x < 256) : ∀ i, i ≤ fs.length → (∀ k, k < i → rdE fs (opC op) r k = 0) →
    (rdT fs (opC op) r i).2.2 = 0 ∧ r = encs (numsC (rdT fs (opC op) r i).1 (fs.take i)) ++ (rdT fs (opC op) r i).2.1 ∧ (∀ j ∈ fs.take i, 0 ≤ (rdT fs (opC op) r i).1 j ∧ (rdT fs (opC op) r i).1 j ≤ 2147483647) ∧
      (∀ k, k ≠ 0 → ¬ k ∈ fs.take i → (rdT fs (opC op) r i).1 k = 0)
  | 0, _, _ => by
    refine ⟨rfl, ?_, ?_, ?_⟩
    · simp [rdT, numsC, encs]
    · intro j hj; simp at hj
    · intro k hk _; show opC op k = 0; unfold opC; rw [if_neg hk]
  | i + 1, h, hall => by
    obtain ⟨h1, h2, h3, h4⟩ := rdT_back hnd hf hb i (by omega) (fun k hk => hall k (by omega))
    have hi : i < fs.length := by omega
    have hj : fs[i]? = some fs[i] := List.getElem?_eq_getElem hi
    have hfresh := take_fresh hnd hj
    have hE : (numT (rdT fs (opC op) r i).2.1 0 2147483647).2.2 = 0 := by
      have := hall i (by omega)
      unfold rdE at this
      unfold rdT at this
      rw [h1] at this
      exact this
    have e : rdT fs (opC op) r (i + 1) = (updC (rdT fs (opC op) r i).1 fs[i] (numT (rdT fs (opC op) r i).2.1 0 2147483647).1, (numT (rdT fs (opC op) r i).2.1 0 2147483647).2.1, (numT (rdT fs (opC op) r i).2.1 0 2147483647).2.2) := by
      conv => lhs; unfold rdT
      rw [h1, atF_eq hj]
    rw [e]
    generalize rdT fs (opC op) r i = T at *
    obtain ⟨d, bs, e0⟩ := T
    simp only at h1 h2 h3 h4 hE
    have hbs : ∀ x ∈ bs, x < 256 := fun x hx => hb x (by rw [h2]; exact List.mem_append.2 (.inr hx))
    obtain ⟨hq, hsplit⟩ := numT_back hbs hE
    generalize numT bs 0 2147483647 = T at *
    obtain ⟨q, bs', e1⟩ := T
    simp only at hq hsplit hE
    simp only
    have hupd : ∀ j ∈ fs.take i, updC d fs[i] (q : Int) j = d j := fun j hj' => by
      unfold updC
      rw [if_neg (fun (e : j = fs[i]) => hfresh (by rw [← e]; exact hj'))]
    refine ⟨hE, ?_, ?_, ?_⟩
    · have hn : numsC (updC d fs[i] (q : Int)) (fs.take (i + 1)) = numsC d (fs.take i) ++ [q] := by
        rw [numsC_step hj]
        have e2 : numsC (updC d fs[i] (q : Int)) (fs.take i) = numsC d (fs.take i) := by
          unfold numsC
          apply List.map_congr_left
          intro j hj'
          rw [hupd j hj']
        have e3 : updC d fs[i] (q : Int) fs[i] = (q : Int) := by unfold updC; rw [if_pos rfl]
        rw [e2, e3, Int.toNat_natCast]
      rw [hn, encs_snoc, List.append_assoc, ← hsplit]
      exact h2
    · intro j hj'
      rw [List.take_add_one, hj] at hj'
      rcases List.mem_append.1 hj' with h5 | h5
      · rw [hupd j h5]; exact h3 j h5
      · simp at h5
        subst h5
        have e3 : updC d fs[i] (q : Int) fs[i] = (q : Int) := by unfold updC; rw [if_pos rfl]
        rw [e3]
        omega
    · intro k hk hm
      rw [List.take_add_one, hj] at hm
      have hm1 : ¬ k ∈ fs.take i := fun x => hm (List.mem_append.2 (.inl x))
      have hm2 : k ≠ fs[i] := fun x => hm (List.mem_append.2 (.inr (by simp [x])))
      unfold updC
      rw [if_neg hm2]
      exact h4 k hk hm1

/-- What is had of bytes is right, and has these. -/
theorem encode_decodeT {bs : List Nat} (hb : ∀ x ∈ bs, x < 256) (h : (decodeT bs).2 = []) : checkK (decodeT bs).1 = [] ∧ encC (decodeT bs).1 = bs := by
  cases bs with
  | nil => cases h
  | cons x r =>
    cases hfs : fieldsT (x : Int) with
    | none => unfold decodeT at h; simp only at h; rw [hfs] at h; cases h
    | some fs =>
      have hd : decodeT (x :: r) = if firstK (rdE fs (opC x) r) fs.length ≠ [] then (zeroC, (3, cmdS, (x : Int)) :: firstK (rdE fs (opC x) r) fs.length)
        else if 0 < (rdT fs (opC x) r fs.length).2.1.length then (zeroC, [(3, cmdS, (x : Int)), (4, fieldS, (fs.length : Int))])
        else ((rdT fs (opC x) r fs.length).1, []) := by unfold decodeT; simp only; rw [hfs]
      by_cases hk : firstK (rdE fs (opC x) r) fs.length = []
      · rw [if_neg (by simp [hk])] at hd
        by_cases hr : 0 < (rdT fs (opC x) r fs.length).2.1.length
        · rw [if_pos hr] at hd; rw [hd] at h; cases h
        · rw [if_neg hr] at hd
          have hall : ∀ k, k < fs.length → rdE fs (opC x) r k = 0 := by
            rcases firstK_cases (rdE fs (opC x) r) fs.length with ⟨_, h2⟩ | ⟨_, _, _, _, h2⟩
            · exact h2
            · rw [hk] at h2; cases h2
          obtain ⟨_, b2, b3, b4⟩ := rdT_back (op := (x : Int)) (fieldsT_nodup hfs) (fieldsT_lt hfs) (fun y hy => hb y (by simp [hy])) fs.length (Nat.le_refl _) hall
          have b0 := rdT_op (fieldsT_lt hfs) (opC (x : Int)) r fs.length (Nat.le_refl _)
          have hrest : (rdT fs (opC x) r fs.length).2.1 = [] := List.eq_nil_of_length_eq_zero (by omega)
          rw [hd]
          simp only
          rw [hrest, List.append_nil] at b2
          rw [List.take_length] at b2 b3 b4
          generalize (rdT fs (opC x) r fs.length).1 = c at *
          have hc0 : c 0 = (x : Int) := b0
          have hck : checkK c = [] := by
            unfold checkK
            rw [hc0, hfs]
            simp only
            have hw : firstK (fun i => wrongN (c (atF fs i))) fs.length = [] := firstK_none fun i hi => by
              rw [atF_eq (List.getElem?_eq_getElem hi)]
              have := b3 _ (List.getElem_mem hi)
              unfold wrongN
              rw [if_neg (by omega)]
            rw [if_neg (by rw [hw]; simp)]
            have he : eq8 (onlyC c fs) c = true := eq8_iff.2 fun k hk => by
              unfold onlyC
              by_cases h1 : k = 0 ∨ k ∈ fs
              · rw [if_pos h1]
              · rw [if_neg h1]
                exact (b4 k (fun e => h1 (.inl e)) (fun e => h1 (.inr e))).symm
            rw [he]
            rfl
          refine ⟨hck, ?_⟩
          unfold encC
          rw [hc0, hfs]
          show x :: encs (numsC c fs) = x :: r
          rw [← b2]
      · rw [if_pos hk] at hd; rw [hd] at h; cases h

theorem encC_length {c : Cmd8} (h : checkK c = []) : (encC c).length ≤ 40 := by
  obtain ⟨fs, hfs, hin, _⟩ := right_iff h
  have key : ∀ l : List Nat, (∀ j ∈ l, 0 ≤ c j ∧ c j ≤ 2147483647) → (encs (numsC c l)).length ≤ l.length * 5 := by
    intro l
    induction l with
    | nil => intro _; simp [numsC, encs]
    | cons j l ih =>
      intro hl
      have h1 := ih (fun k hk => hl k (by simp [hk]))
      have h2 := hl j (by simp)
      have h3 : (enc (c j).toNat).length ≤ 5 := enc_length 4 _ (Nat.lt_of_le_of_lt (show (c j).toNat ≤ 2147483647 by omega) (by decide))
      have e : encs (numsC c (j :: l)) = enc (c j).toNat ++ encs (numsC c l) := encs_cons _ _
      rw [e, List.length_append, List.length_cons]
      omega
  have h1 := key fs hin
  have h2 := fieldsT_len hfs
  have e : encC c = (c 0).toNat :: encs (numsC c fs) := by unfold encC; rw [hfs]; rfl
  rw [e, List.length_cons]
  omega
theorem encC_bytes {c : Cmd8} (h : checkK c = []) : ∀ x ∈ encC c, x < 256 := by
  obtain ⟨fs, hfs, hin, _⟩ := right_iff h
  have e : encC c = (c 0).toNat :: encs (numsC c fs) := by unfold encC; rw [hfs]; rfl
  have hop := opsT_byte (fieldsT_some hfs)
  intro x hx
  rw [e] at hx
  rcases List.mem_cons.1 hx with rfl | hx
  · omega
  · obtain ⟨n, _, hn⟩ := List.mem_flatMap.1 hx
    exact enc_bytes n x hn

/-- No two right commands have the same bytes. -/
theorem encC_inj {c d : Cmd8} (hc : checkK c = []) (hd : checkK d = []) : encC c = encC d ↔ eq8 c d = true := by
  constructor
  · intro h
    have h1 := (decode_encC hc).2
    have h2 := (decode_encC hd).2
    rw [h] at h1
    rw [eq8_iff] at *
    intro k hk
    exact (h1 k hk).symm.trans (h2 k hk)
  · intro h
    rw [eq8_iff] at h
    unfold encC
    rw [h 0 (by decide)]
    cases hfs : fieldsT (d 0) with
    | none => rfl
    | some fs =>
      show _ :: encs (numsC c fs) = _ :: encs (numsC d fs)
      have : numsC c fs = numsC d fs := by
        unfold numsC
        apply List.map_congr_left
        intro j hj
        rw [h j (fieldsT_lt hfs j hj).2]
      rw [this]
theorem decodeT_bad {bs : List Nat} (h : (decodeT bs).2 ≠ []) : (decodeT bs).1 = zeroC ∧ ∃ k ks, (decodeT bs).2 = (3, k) :: ks := by
  cases bs with
  | nil => exact ⟨rfl, _, _, rfl⟩
  | cons x r =>
    unfold decodeT at *
    simp only at *
    cases hfs : fieldsT (x : Int) with
    | none => simp only; exact ⟨trivial, _, _, rfl⟩
    | some fs =>
      rw [hfs] at h
      simp only at *
      by_cases hk : firstK (rdE fs (opC x) r) fs.length ≠ []
      · rw [if_pos hk]; exact ⟨rfl, _, _, rfl⟩
      · rw [if_neg hk] at *
        by_cases hr : 0 < (rdT fs (opC x) r fs.length).2.1.length
        · rw [if_pos hr]; exact ⟨rfl, _, _, rfl⟩
        · rw [if_neg hr] at h; exact absurd rfl h
theorem decodeT_len (bs : List Nat) : (decodeT bs).2.length ≤ 100 := by
  cases bs with
  | nil => decide
  | cons x r =>
    unfold decodeT
    simp only
    cases hfs : fieldsT (x : Int) with
    | none => simp
    | some fs =>
      simp only
      split
      · rcases firstK_cases (rdE fs (opC x) r) fs.length with ⟨h1, _⟩ | ⟨_, _, _, _, h1⟩ <;> rw [h1] <;> simp
      · split <;> simp
theorem checkK_len (c : Cmd8) : (checkK c).length ≤ 100 := by
  unfold checkK
  cases hfs : fieldsT (c 0) with
  | none => simp
  | some fs =>
    simp only
    split
    · rcases firstK_cases (fun i => wrongN (c (atF fs i))) fs.length with ⟨h1, _⟩ | ⟨_, _, _, _, h1⟩ <;> rw [h1] <;> simp
    · split <;> simp
end Go.Proofs.YtnddojngbolbfaaDoor
