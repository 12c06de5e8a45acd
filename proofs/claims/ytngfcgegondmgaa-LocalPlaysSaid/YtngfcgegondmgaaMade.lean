/-
  Arguments; the document's Check; made; what picks leave.
  Conditions: the slice reads as wants of ints.
-/
import Derived.Test.YtngfcgegondmgaaNobody
set_option linter.unusedVariables false
namespace Go.Proofs.Ytngfcgegondmgaa
open Go.RowKit

/-- A slice that reads as wants, however long. -/
def ArgAt (W : World) (v : Value) (ps : List Sp) : Prop :=
  ∃ A c, v = .slice A ps.length c ∧ ps.length ≤ c ∧ c ≤ 9223372036854775807 ∧ (A = none → c = 0) ∧
    (0 < ps.length → ∃ b off, A = some ⟨b, off, none⟩ ∧ b < W.heap.size ∧ ∀ (j : Nat) (p : Sp), ps[j]? = some p → PairAt W b (off + j * 2) p)
theorem ArgAt.keep {W W' : World} {v : Value} {ps : List Sp} (h : ArgAt W v ps) (hb : Below W.heap.size W W') : ArgAt W' v ps := by
  obtain ⟨A, c, h1, h2, h3, h4, h5⟩ := h
  refine ⟨A, c, h1, h2, h3, h4, fun hn => ?_⟩
  obtain ⟨b, off, e, hlt, hc⟩ := h5 hn
  exact ⟨b, off, e, Nat.lt_of_lt_of_le hlt hb.size, fun j x hx => (hc j x hx).keep hb hlt⟩
/-- Its first ones. -/
theorem ArgAt.cut {W : World} {A : Option Addr} {n c : Nat} {ps : List Sp} (h : ArgAt W (.slice A n c) ps) (N : Nat) (hN : N ≤ 100000) : SpansAt W (.slice A (min n N) c) (ps.take N) := by
  obtain ⟨A', c', h1, h2, h3, h4, h5⟩ := h
  injection h1 with e1 e2 e3
  subst e1 e2 e3
  have hl : (ps.take N).length = min ps.length N := by rw [List.length_take, Nat.min_comm]
  have hmin : min ps.length N ≤ ps.length := Nat.min_le_left _ _
  have hmin2 : min ps.length N ≤ N := Nat.min_le_right _ _
  refine ⟨A, c, by rw [hl], by omega, by omega, h3, fun hn => ?_⟩
  obtain ⟨b, off, e, hlt, hc⟩ := h5 (by omega)
  refine ⟨b, off, e, hlt, fun j p hj => hc j p ?_⟩
  rw [List.getElem?_take] at hj
  split at hj
  · exact hj
  · cases hj

/-! ### What stays -/
theorem begin_pick (off : Nat → Bool) {l : List Lm} (hp : ∀ m ∈ l, 0 < m.s) : beginT (pickT off l) = beginT l := by
  unfold pickT
  cases hn : nextT off l with
  | none => rfl
  | some b =>
    have hb := (next_some hp hn).at_
    show beginT (l.set b.1 (more b.2)) = beginT l
    unfold beginT
    rw [List.map_set]
    refine set_self ?_
    rw [List.getElem?_map, hb]
    rfl
theorem wants_pick (off : Nat → Bool) {l : List Lm} (hp : ∀ m ∈ l, 0 < m.s) : wantsT (pickT off l) = wantsT l := by
  unfold pickT
  cases hn : nextT off l with
  | none => rfl
  | some b =>
    have hb := (next_some hp hn).at_
    show wantsT (l.set b.1 (more b.2)) = wantsT l
    unfold wantsT
    rw [List.map_set]
    refine set_self ?_
    rw [List.getElem?_map, hb]
    rfl
theorem len_pick (off : Nat → Bool) (l : List Lm) : (pickT off l).length = l.length := by
  unfold pickT
  cases nextT off l with
  | none => rfl
  | some b => exact List.length_set
theorem begin_new (ps : List Sp) : beginT (newT ps) = newT ps := by
  have hz : ∀ m ∈ newT ps, m.g = 0 := fun m hm => by
    obtain ⟨p, _, rfl⟩ := List.mem_map.1 ((newT_perm ps).mem_iff.1 hm)
    rfl
  have : ∀ l : List Lm, (∀ m ∈ l, m.g = 0) → beginT l = l := fun l h => by
    induction l with
    | nil => rfl
    | cons m l ih =>
      show { m with g := 0 } :: beginT l = m :: l
      rw [ih fun x hx => h x (List.mem_cons_of_mem _ hx)]
      have := h m List.mem_cons_self
      obtain ⟨u, s, g⟩ := m
      simp only at this
      rw [this]
  exact this _ hz
theorem new_wants {f : Int} {ps : List Sp} (h : newE f ps = 0) {p : Sp} (hp : p ∈ ps) : p ∈ wantsT (newT ps) := by
  obtain ⟨k, m, h1, h2, h3⟩ := new_mem h hp
  exact List.mem_map.2 ⟨m, List.mem_of_getElem? h1, Prod.ext h2 h3⟩
theorem gotN_mem {G : Nat} {l : List Lm} (h : OkL G l) {m : Lm} (hm : m ∈ l) : gotN l (m.u : Int) = some m.g := by
  obtain ⟨k, hk, e⟩ := List.getElem_of_mem hm
  have hk' : l[k]? = some m := by rw [List.getElem?_eq_getElem hk, e]
  unfold gotN
  rw [find_at h.rise hk']
  show (l[k]?).map _ = _
  rw [hk']
  rfl
theorem at_want {l L : List Lm} (hw : wantsT l = wantsT L) {p : Sp} (hp : p ∈ wantsT L) : ∃ m ∈ l, ((m.u : Int), (m.s : Int)) = p := by
  rw [← hw] at hp
  exact List.mem_map.1 hp
theorem sumS_wants : ∀ {a b : List Lm}, wantsT a = wantsT b → sumS a = sumS b
  | [], [], _ => rfl
  | [], y :: b, h => by cases h
  | x :: a, [], h => by cases h
  | x :: a, y :: b, h => by
    have h1 : ((x.u : Int), (x.s : Int)) = ((y.u : Int), (y.s : Int)) := (List.cons.inj h).1
    have h2 : wantsT a = wantsT b := (List.cons.inj h).2
    have h3 : (x.s : Int) = (y.s : Int) := congrArg Prod.snd h1
    show x.s + sumS a = y.s + sumS b
    rw [sumS_wants h2]
    omega
theorem off_none : offB [] = fun _ => false := rfl

/-! ### The document's Check -/
theorem refCheck15 (f : Int) (v : Value) (ps : List Sp) (w : World) (h : SpansAt w v ps) (hi : IntsS ps) :
    Calls Try.prog 9 #[.int .i64 f, v] w (RetB (.int .i64 (newE f ps)) w) := by
  have HCH := Lib.hid (refCheck_any f v ps w h hi)
  by_cases h1 : chkT f ps = 0
  · obtain ⟨⟨_, k1⟩, k2⟩ := chk_right h1
    have htot := totT_right k1 k2 h.len
    rw [h1] at HCH
    have HT := Lib.hid (fun (w' : World) (hb : Below w.heap.size w w') => refTotal_any v ps w' (h.keep hb) hi)
    rw [htot] at HT
    obtain ⟨S, hS⟩ : ∃ S, sumP ps = S := ⟨_, rfl⟩
    have hv1 : sumV (some S) = S := rfl
    have hv2 : sumB (some S) = true := rfl
    by_cases h2 : f < sumP ps
    · rw [newE_full h1 h2]
      have q1 : decide (f < sumP ps) = true := decide_eq_true h2
      rw [hS] at HT q1 h2
      rw [hv1, hv2] at HT
      clear h hi h1 htot hS k1 k2 hv1 hv2
      go_enter Try.func9, Try.ntmps9
      go_wp2_with fail
      refine HCH.out.mono ?_
      rintro e w1 ⟨rfl, hb⟩
      have HB := Lib.hid hb
      clear hb
      go_wp2_with fail
      refine (HT.out _ HB.out).mono ?_
      rintro e w2 ⟨rfl, hb⟩
      have HB2 := Lib.hid (HB.out.trans (hb.mono HB.out.size))
      clear hb
      go_wp2
      go_ret
      exact ⟨rfl, HB2.out⟩
    · rw [newE_ok h1 h2]
      have q1 : decide (f < sumP ps) = false := decide_eq_false h2
      rw [hS] at HT q1 h2
      have h3 : S ≤ f := by omega
      rw [hv1, hv2] at HT
      clear h hi h1 htot hS k1 k2 hv1 hv2 h2
      go_enter Try.func9, Try.ntmps9
      go_wp2_with fail
      refine HCH.out.mono ?_
      rintro e w1 ⟨rfl, hb⟩
      have HB := Lib.hid hb
      clear hb
      go_wp2_with fail
      refine (HT.out _ HB.out).mono ?_
      rintro e w2 ⟨rfl, hb⟩
      have HB2 := Lib.hid (HB.out.trans (hb.mono HB.out.size))
      clear hb
      go_wp2
      go_ret
      exact ⟨rfl, HB2.out⟩
  · rw [newE_chk h1]
    obtain ⟨E, hE⟩ : ∃ E, chkT f ps = E := ⟨_, rfl⟩
    rw [hE] at HCH h1 ⊢
    have q1 : (E != 0) = true := by simpa using h1
    clear h hi h1 hE
    go_enter Try.func9, Try.ntmps9
    go_wp2_with fail
    refine HCH.out.mono ?_
    rintro e w1 ⟨rfl, hb⟩
    have HB := Lib.hid hb
    clear hb
    go_wp2
    go_ret
    exact ⟨rfl, HB.out⟩

/-! ### made -/
def MadePost (W : World) (l : List Lm) (e : Ending) (w' : World) : Prop := ∃ rb, e = .returned (.tuple #[.pointer (some ⟨rb, 0, none⟩), .bool true]) ∧ Held W.heap.size w' rb l ∧ Below W.heap.size W w'
theorem made_bad (f : Int) (v : Value) (ps : List Sp) (W : World) (h : SpansAt W v ps) (hi : IntsS ps) (he : newE f ps ≠ 0) :
    Calls Try.prog 23 #[.int .i64 f, v] W (RetB (.tuple #[.pointer none, .bool false]) W) := by
  have HN := Lib.hid (new_bad f v ps W h hi he)
  have q1 : (newE f ps != 0) = true := by simpa using he
  obtain ⟨E, hE⟩ : ∃ E, newE f ps = E := ⟨_, rfl⟩
  rw [hE] at HN q1
  clear h hi he hE
  go_enter Try.func23, Try.ntmps23
  go_wp2_with fail
  refine HN.out.mono ?_
  rintro e w1 ⟨rfl, hb⟩
  have HB := Lib.hid hb
  clear hb
  go_wp2
  go_ret2
  exact ⟨rfl, HB.out⟩
set_option maxRecDepth 100000 in
theorem made_ok (f : Int) (v : Value) (ps : List Sp) (W : World) (h : SpansAt W v ps) (hi : IntsS ps) (he : newE f ps = 0) :
    Calls Try.prog 23 #[.int .i64 f, v] W (MadePost W (newT ps)) := by
  have HN := Lib.hid (new_ok f v ps W h hi he)
  have hok := new_okL he
  have HE : Hid (beginT (pickT (offB []) (pickT (offB []) (newT ps))) = newT ps) := by
    show _ = _
    rw [begin_pick _ (hok.pick _).share, begin_pick _ hok.share, begin_new]
  have HOK := Lib.hid hok
  clear h hi he hok
  go_enter Try.func23, Try.ntmps23
  go_wp2_with fail
  refine HN.out.mono ?_
  rintro e w1 ⟨rb, rfl, hh, hb⟩
  have HB := Lib.hid hb
  have H1 := Lib.hid (Held.pick hh HOK.out (by decide) (IntsAt.nil w1))
  clear hb hh
  go_wp2_with fail
  refine H1.out.mono ?_
  rintro e w2 ⟨rfl, hh, hb⟩
  have HB2 := Lib.hid (HB.out.trans hb)
  have H2 := Lib.hid (Held.pick hh (HOK.out.pick _) (by decide) (IntsAt.nil w2))
  clear hb hh
  go_wp2_with fail
  refine H2.out.mono ?_
  rintro e w3 ⟨rfl, hh, hb⟩
  have HB3 := Lib.hid (HB2.out.trans hb)
  have H3 := Lib.hid (Held.begin_ hh (by have := ((HOK.out.pick (offB [])).pick (offB [])).len; omega))
  rw [HE.out] at H3
  clear hb hh
  go_wp2_with fail
  refine H3.out.mono ?_
  rintro e w4 ⟨rfl, hh, hb⟩
  have HB4 := Lib.hid (HB3.out.trans hb)
  have HH := Lib.hid hh
  clear hb hh
  go_wp2
  go_ret2
  exact ⟨rb, rfl, HH.out, HB4.out⟩
end Go.Proofs.Ytngfcgegondmgaa
