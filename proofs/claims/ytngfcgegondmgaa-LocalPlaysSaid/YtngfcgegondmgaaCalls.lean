/-
  Pick, Got, Begin, Drop of a local by contract.
  Conditions: the local lies in memory; its numbers are small.
-/
import Derived.Test.YtngfcgegondmgaaNext
import Derived.Test.YtngfcgegondmgaaCut
set_option linter.unusedVariables false
namespace Go.Proofs.Ytngfcgegondmgaa
open Go.RowKit Go.Sort

def pickV (o : Option (Nat × Lm)) : Value := .tuple #[.int .i64 (unitO o), .bool o.isSome]
set_option maxRecDepth 100000 in
theorem pick_any (W : World) (rb : Nat) (mv : Value) (l : List Lm) (ov : Value) (xs : List Int) (h : LocAt W rb mv l) (ho : OkL 1000000 l) (hx : IntsAt W ov xs) :
    Calls Try.prog 12 #[.pointer (some ⟨rb, 0, none⟩), ov] W (MutPost W rb mv (pickV (nextT (offB xs) l)) (pickT (offB xs) l)) := by
  have HNX := Lib.hid (next_any W rb mv l ov xs h ho hx)
  have HR := Lib.hid h
  unfold pickT
  cases hb : nextT (offB xs) l with
  | none =>
    rw [hb] at HNX
    have HEND := Lib.hid (fun (e : Ending) (w' : World) (hb : Below W.heap.size W w') (he : e = .returned (.tuple #[.int .i64 0, .bool false])) => mut_below h hb he)
    have e : idxI none = -1 := rfl
    rw [e] at HNX
    clear h ho hx hb e
    go_enter Try.func12, Try.ntmps12
    go_wp2_with fail
    refine HNX.out.mono ?_
    rintro e w1 ⟨rfl, hb⟩
    have HB := Lib.hid hb
    clear hb
    go_wp2
    go_ret2
    exact HEND.out _ _ HB.out rfl
  | some b =>
    obtain ⟨k, m⟩ := b
    rw [hb] at HNX
    have e : idxI (some (k, m)) = (k : Int) := rfl
    rw [e] at HNX
    have hm := (next_some ho.share hb).at_
    have HM := Lib.hid hm
    have hkl := (List.getElem?_eq_some_iff.1 hm).1
    have hmb := ho.got m (List.mem_of_getElem? hm)
    obtain ⟨A, c, rfl⟩ := h.form
    obtain ⟨n, hn⟩ : ∃ n, l.length = n := ⟨_, rfl⟩
    rw [hn] at hkl HR h ⊢
    have hk1 : (k : Int) < (n : Int) := by omega
    have hk0 : (0 : Int) ≤ (k : Int) := by omega
    have hk2 : decide ((k : Int) < 0) = false := decide_eq_false (by omega)
    obtain ⟨x, hx⟩ : ∃ x, m.g + 1 = x := ⟨_, rfl⟩
    have hx2 : (m.g : Int) + 1 = (x : Int) := by omega
    have hx3 : (x : Int) ≤ 1000001 := by omega
    have HX := Lib.hid hx
    obtain ⟨L', hL'⟩ : ∃ L', pickO l (some (k, m)) = L' := ⟨_, rfl⟩
    have HL' : Hid (L' = l.set k { m with g := x }) := by rw [← hL', ← hx]; exact rfl
    have hv : pickV (some (k, m)) = .tuple #[.int .i64 m.u, .bool true] := rfl
    rw [hL', hv]
    clear h ho hx hb e hm hn hL' hv hkl
    obtain ⟨m1, m2, m3⟩ := m
    simp only at hx2 HX hmb HL' ⊢
    go_enter Try.func12, Try.ntmps12
    go_wp2_with fail
    refine HNX.out.mono ?_
    rintro e w1 ⟨rfl, hb⟩
    have HB := Lib.hid hb
    have HR1 := Lib.hid (HR.out.below hb)
    obtain ⟨c1, _⟩ := HR1.out.heads
    obtain ⟨g, cap, hA, _, _, _, _, ⟨a0, a1, a2⟩, hfr⟩ := HR1.out.at_ HM.out
    injection hA with hA hA1 hA2; clear hA1 hA2
    subst hA
    have b3 := hfr (k * 3 + 2)
    have HR2 : Hid (LocAt (w1.setCell ⟨g, k * 3 + 2, none⟩ (.int .i64 x)) rb (.slice (some ⟨g, 0, none⟩) n c) L') := by
      rw [HL'.out]
      exact HR1.out.setG HM.out x
    have HA2 : Hid (Apart (Foot rb (.slice (some ⟨g, 0, none⟩) n c)) W (w1.setCell ⟨g, k * 3 + 2, none⟩ (.int .i64 x))) := (Apart.of_below HB.out).set (p := ⟨g, k * 3 + 2, none⟩) (.inl (.inr rfl)) _
    have hm2 : L'[k]? = some ⟨m1, m2, x⟩ := by rw [HL'.out, List.getElem?_set_self (List.getElem?_eq_some_iff.1 HM.out).1]
    have HM2 := Lib.hid hm2
    clear hm2
    obtain ⟨g2, cap2, hA, _, _, _, _, ⟨d0, _, _⟩, _⟩ := HR2.out.at_ HM2.out
    injection hA with hA hA1 hA2; clear hA1 hA2
    injection hA with hA
    injection hA with hA
    subst hA
    obtain ⟨w2, hw2⟩ : ∃ w2, w1.setCell ⟨g, k * 3 + 2, none⟩ (.int .i64 x) = w2 := ⟨_, rfl⟩
    rw [hw2] at HR2 HA2 d0
    have HEND : Hid (∀ e w', w' = w2 → e = .returned (.tuple #[.int .i64 m1, .bool true]) → MutPost W rb (.slice (some ⟨g, 0, none⟩) n c) (.tuple #[.int .i64 m1, .bool true]) L' e w') := fun e w' h he => by
      rw [h]
      exact ⟨_, he, HR2.out, HA2.out, Grew.refl _ _⟩
    clear hfr hb a0 a1
    go_wp2
    go_ret2
    exact HEND.out _ _ rfl rfl
theorem pick_nil (W : World) (ov : Value) : Calls Try.prog 12 #[.pointer none, ov] W (RetB (.tuple #[.int .i64 0, .bool false]) W) := by
  have HN := Lib.hid (next_nil W ov)
  go_enter Try.func12, Try.ntmps12
  go_wp2_with fail
  refine HN.out.mono ?_
  rintro e w1 ⟨rfl, hb⟩
  have HB := Lib.hid hb
  clear hb
  go_wp2
  go_ret2
  exact ⟨rfl, HB.out⟩

def gotN (l : List Lm) (u : Int) : Option Nat := (findT u l).bind fun k => (l[k]?).map fun m => m.g
def gotV (o : Option Nat) : Value := .tuple #[.int .i64 (o.getD 0 : Nat), .bool o.isSome]
theorem got_any (W : World) (rb : Nat) (mv : Value) (l : List Lm) (u : Int) (h : LocAt W rb mv l) (hl : l.length ≤ 1000) :
    Calls Try.prog 22 #[.pointer (some ⟨rb, 0, none⟩), .int .i64 u] W (RetB (gotV (gotN l u)) W) := by
  have HFI := Lib.hid (find_any W rb mv l u h hl)
  have HR := Lib.hid h
  unfold gotN
  cases hb : findT u l with
  | none =>
    rw [hb] at HFI
    have e : idxO none = -1 := rfl
    rw [e] at HFI
    show Calls _ _ _ _ (RetB (.tuple #[.int .i64 0, .bool false]) W)
    clear h hb e
    go_enter Try.func22, Try.ntmps22
    go_wp2_with fail
    refine HFI.out.mono ?_
    rintro e w1 ⟨rfl, hb⟩
    have HB := Lib.hid hb
    clear hb
    go_wp2
    go_ret2
    exact ⟨rfl, HB.out⟩
  | some k =>
    rw [hb] at HFI
    have e : idxO (some k) = (k : Int) := rfl
    rw [e] at HFI
    obtain ⟨m, hm, _⟩ := find_some hb
    have HM := Lib.hid hm
    have hkl := (List.getElem?_eq_some_iff.1 hm).1
    have hv : gotV ((l[k]?).map fun (x : Lm) => x.g) = .tuple #[.int .i64 m.g, .bool true] := by
      rw [hm]
      rfl
    show Calls _ _ _ _ (RetB (gotV ((l[k]?).map fun (x : Lm) => x.g)) W)
    rw [hv]
    obtain ⟨A, c, rfl⟩ := h.form
    obtain ⟨n, hn⟩ : ∃ n, l.length = n := ⟨_, rfl⟩
    rw [hn] at hkl HR h
    have hk1 : (k : Int) < (n : Int) := by omega
    have hk0 : (0 : Int) ≤ (k : Int) := by omega
    have hk2 : decide ((k : Int) < 0) = false := decide_eq_false (by omega)
    clear h hb e hm hn hv hkl hl
    obtain ⟨m1, m2, m3⟩ := m
    simp only
    go_enter Try.func22, Try.ntmps22
    go_wp2_with fail
    refine HFI.out.mono ?_
    rintro e w1 ⟨rfl, hb⟩
    have HB := Lib.hid hb
    have HR1 := Lib.hid (HR.out.below hb)
    obtain ⟨c1, _⟩ := HR1.out.heads
    obtain ⟨g, cap, hA, _, _, _, _, ⟨a0, a1, a2⟩, hfr⟩ := HR1.out.at_ HM.out
    injection hA with hA hA1 hA2; clear hA1 hA2
    subst hA
    clear hb hfr a0 a1
    go_wp2
    go_ret2
    exact ⟨rfl, HB.out⟩
theorem got_nil (W : World) (u : Int) : Calls Try.prog 22 #[.pointer none, .int .i64 u] W (RetB (.tuple #[.int .i64 0, .bool false]) W) := by
  have HN := Lib.hid (find_nil W u)
  go_enter Try.func22, Try.ntmps22
  go_wp2_with fail
  refine HN.out.mono ?_
  rintro e w1 ⟨rfl, hb⟩
  have HB := Lib.hid hb
  clear hb
  go_wp2
  go_ret2
  exact ⟨rfl, HB.out⟩

def zeroT (k : Nat) (l : List Lm) : List Lm := beginT (l.take k) ++ l.drop k
theorem zeroT_at {l : List Lm} {k : Nat} {m : Lm} (h : l[k]? = some m) : (zeroT k l)[k]? = some m := by
  have hk := (List.getElem?_eq_some_iff.1 h).1
  have hl : (beginT (l.take k)).length = k := by unfold beginT; rw [List.length_map, List.length_take]; omega
  unfold zeroT
  rw [List.getElem?_append_right (by omega), hl, Nat.sub_self, List.getElem?_drop, Nat.add_zero, h]
theorem zeroT_set {l : List Lm} {k : Nat} {m : Lm} (h : l[k]? = some m) : (zeroT k l).set k { m with g := 0 } = zeroT (k + 1) l := by
  have hk := (List.getElem?_eq_some_iff.1 h).1
  have hl : (beginT (l.take k)).length = k := by unfold beginT; rw [List.length_map, List.length_take]; omega
  unfold zeroT
  rw [List.set_append_right _ _ (by omega), hl, Nat.sub_self, drop_ofL h, take_succ_of h]
  simp [beginT]
theorem zeroT_len (k : Nat) (l : List Lm) : (zeroT k l).length = l.length := by
  unfold zeroT beginT
  rw [List.length_append, List.length_map, List.length_take, List.length_drop]
  omega

set_option maxRecDepth 100000 in
theorem begin_any (W : World) (rb : Nat) (mv : Value) (l : List Lm) (h : LocAt W rb mv l) (hl : l.length ≤ 1000) :
    Calls Try.prog 14 #[.pointer (some ⟨rb, 0, none⟩)] W (MutPost W rb mv (.tuple #[]) (beginT l)) := by
  have HR := Lib.hid h
  obtain ⟨c1, _⟩ := h.heads
  obtain ⟨A, c, rfl⟩ := h.form
  obtain ⟨n, hn⟩ : ∃ n, l.length = n := ⟨_, rfl⟩
  rw [hn] at HR h c1 hl ⊢
  have HN := Lib.hid hn
  clear h hn
  go_enter Try.func14, Try.ntmps14
  go_wp2_with fail
  go_loopg [2, 10] n (fun gg _ s wr => ∃ k : Nat, k ≤ n ∧ gg = n - k ∧ s = .int .i64 k ∧ LocAt wr rb (.slice A n c) (zeroT k l) ∧ Apart (Foot rb (.slice A n c)) W wr)
  case atStart => exact ⟨0, Nat.zero_le _, by omega, rfl, HR.out, Apart.refl _ _⟩
  case round =>
    obtain ⟨k, hk, hg, rfl, hat, hap⟩ := hrel
    have HG := Lib.hid hg
    have HAT := Lib.hid hat
    have HAP := Lib.hid hap
    clear hg hat hap c1
    by_cases hlt : k < n
    · have hltz : (k : Int) < (n : Int) := by omega
      obtain ⟨m, hm⟩ := ex_at (xs := l) (k := k) (by rw [HN.out]; exact hlt)
      obtain ⟨c1, _⟩ := HAT.out.heads
      obtain ⟨g, cap, hA, _, _, _, _, ⟨a0, a1, a2⟩, hfr⟩ := HAT.out.at_ (zeroT_at hm)
      injection hA with hA hA1 hA2; clear hA1 hA2
      subst hA
      have b3 := hfr (k * 3 + 2)
      have HNEW : Hid (LocAt (wr.setCell ⟨g, k * 3 + 2, none⟩ (.int .i64 0)) rb (.slice (some ⟨g, 0, none⟩) n c) (zeroT (k + 1) l)) := by
        have := HAT.out.setG (zeroT_at hm) 0
        rw [zeroT_set hm] at this
        exact this
      have HAP2 : Hid (Apart (Foot rb (.slice (some ⟨g, 0, none⟩) n c)) W (wr.setCell ⟨g, k * 3 + 2, none⟩ (.int .i64 0))) := HAP.out.set (p := ⟨g, k * 3 + 2, none⟩) (.inl (.inr rfl)) _
      clear hm hfr a0 a1
      go_wp2
      go_roundg (n - (k + 1))
      case measure => have := HG.out; omega
      case rel => exact ⟨k + 1, by omega, rfl, by go_num, HNEW.out, HAP2.out⟩
    · have hltz : ¬ (k : Int) < (n : Int) := by omega
      have HEND : Hid (LocAt wr rb (.slice A n c) (beginT l)) := by
        have := HAT.out
        unfold zeroT at this
        rwa [List.take_of_length_le (by have := HN.out; omega), List.drop_of_length_le (by have := HN.out; omega), List.append_nil] at this
      go_wp2
      refine bodyPost_end (results_none rfl _ _ _) rfl ?_
      exact ⟨_, rfl, HEND.out, HAP.out, Grew.refl _ _⟩
theorem begin_nil (W : World) : Calls Try.prog 14 #[.pointer none] W (RetB (.tuple #[]) W) := by
  go_enter Try.func14, Try.ntmps14
  go_wp2
  refine bodyPost_end (results_none rfl _ _ _) rfl ?_
  exact ⟨rfl, Below.refl _ W⟩

set_option maxRecDepth 100000 in
theorem drop_any (W : World) (rb : Nat) (mv : Value) (l : List Lm) (u : Int) (h : LocAt W rb mv l) (hp : l.Pairwise fun a b => a.u < b.u) (hl : l.length ≤ 1000) :
    Calls Try.prog 17 #[.pointer (some ⟨rb, 0, none⟩), .int .i64 u] W (MutPost W rb mv (.bool (findT u l).isSome) (dropT u l)) := by
  have HFI := Lib.hid (find_any W rb mv l u h hl)
  have HR := Lib.hid h
  cases hb : findT u l with
  | none =>
    rw [hb] at HFI
    have e : idxO none = -1 := rfl
    rw [e] at HFI
    rw [drop_none hb]
    have HEND := Lib.hid (fun (e : Ending) (w' : World) (hb : Below W.heap.size W w') (he : e = .returned (.bool false)) => mut_below h hb he)
    clear h hb e hp hl
    show Calls _ _ _ _ (MutPost W rb mv (.bool false) l)
    go_enter Try.func17, Try.ntmps17
    go_wp2_with fail
    refine HFI.out.mono ?_
    rintro e w1 ⟨rfl, hb⟩
    have HB := Lib.hid hb
    clear hb
    go_wp2
    go_ret
    exact HEND.out _ _ HB.out rfl
  | some k =>
    rw [hb] at HFI
    have e : idxO (some k) = (k : Int) := rfl
    rw [e] at HFI
    obtain ⟨m, hm, _⟩ := find_some hb
    have hkl := (List.getElem?_eq_some_iff.1 hm).1
    rw [drop_some hp hb, cut_erase]
    have hk0 : (0 : Int) ≤ (k : Int) := by omega
    have hk2 : decide ((k : Int) < 0) = false := decide_eq_false (by omega)
    have hk3 : (k : Int) ≤ 1000 := by omega
    have HL := Lib.hid hl
    have HK := Lib.hid hkl
    clear h hb e hm hp hl hkl
    show Calls _ _ _ _ (MutPost W rb mv (.bool true) (cutAt l k))
    go_enter Try.func17, Try.ntmps17
    go_wp2_with fail
    refine HFI.out.mono ?_
    rintro e w1 ⟨rfl, hb⟩
    have HB := Lib.hid hb
    have HR1 := Lib.hid (HR.out.below hb)
    have HD := Lib.hid (deleteM_any 0 mv l k w1 HR1.out.row HK.out HL.out)
    obtain ⟨c1, _⟩ := HR1.out.heads
    obtain ⟨A, c, hmv⟩ := HR1.out.form
    have HMV := Lib.hid hmv
    rw [hmv] at HD c1
    clear hb hmv
    go_wp2_with fail
    refine HD.out.mono ?_
    rintro e w2 ⟨v2, rfl, k1, k2, k3⟩
    rw [← HMV.out] at k2 k3
    have hhead : w2.heap[rb]? = some (.cells #[mv] 62 (0, 0)) := (k2.block rb HR1.out.lt (fun e => HR1.out.ne e)).trans HR1.out.head
    have HNE : Hid (v2.ownBlock ≠ some rb) := fun e => by
      rcases k3 rb e with h | h
      · exact HR1.out.ne h
      · have := HR1.out.lt
        omega
    have HAT : Hid (∀ w3, w3 = w2.setCell ⟨rb, 0, none⟩ v2 → LocAt w3 rb v2 (cutAt l k)) := by
      rintro w3 rfl
      refine ⟨heap_setCell_mem _ _ _ _ _ _ _ hhead, own_keep k1 fun x hx => Below.heap_setCell _ _ _ _ fun e => HNE.out ((show x = rb from e) ▸ hx), HNE.out⟩
    have HAP : Hid (∀ w3, w3 = w2.setCell ⟨rb, 0, none⟩ v2 → Apart (Foot rb mv) W w3) := by
      rintro w3 rfl
      refine (Apart.trans (Apart.of_below HB.out) k2 (fun x _ hx => .inr hx)).set (p := ⟨rb, 0, none⟩) (.inl (.inl rfl)) _
    have HGR : Hid (Grew W mv v2) := fun x hx => by
      rcases k3 x hx with h | h
      · exact .inl h
      · exact .inr (Nat.le_trans HB.out.size h)
    have d1 : w2.cell? ⟨rb, 0, none⟩ = some mv := by simp [World.cell?, hhead]
    have d2 : w2.frozen? ⟨rb, 0, none⟩ = false := by simp [World.frozen?, hhead]
    obtain ⟨A2, c2, rfl⟩ := own_form k1
    clear k1 k2 k3 hhead c1
    go_wp2
    go_ret
    exact ⟨_, rfl, HAT.out _ rfl, HAP.out _ rfl, HGR.out⟩
theorem drop_nil (W : World) (u : Int) : Calls Try.prog 17 #[.pointer none, .int .i64 u] W (RetB (.bool false) W) := by
  have HN := Lib.hid (find_nil W u)
  go_enter Try.func17, Try.ntmps17
  go_wp2_with fail
  refine HN.out.mono ?_
  rintro e w1 ⟨rfl, hb⟩
  have HB := Lib.hid hb
  clear hb
  go_wp2
  go_ret
  exact ⟨rfl, HB.out⟩
end Go.Proofs.Ytngfcgegondmgaa
