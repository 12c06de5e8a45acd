/-
  Check: what is wrong with a command (P11.1).
  Conditions: the variable errors.errorType holds its handle.
-/
import Derived.Test.YtnddojngbolbfaaDoorFields
set_option linter.unusedVariables false
namespace Go.Proofs.YtnddojngbolbfaaDoor
open Go.RowKit

set_option maxRecDepth 100000 in
set_option maxHeartbeats 1000000 in
theorem check1_any (b j : Nat) (c : Cmd8) (W : World) (hj : j < 8) (h : CmdAt W b c) :
    Calls Tryd.prog 22 #[.pointer (some ⟨b, j, none⟩)] W (fun e W' => e = .returned (.int .i64 (wrongN (c j))) ∧ W' = W.setCell ⟨b, j, none⟩ (.int .i64 0)) := by
  have e1 := h.cell hj
  have f1 := h.frozen j
  generalize c j = n at *
  clear h
  by_cases h1 : n < 0
  · have hr : wrongN n = 5 := if_pos (.inl h1)
    rw [hr]
    clear hr
    go_enter Tryd.func22, Tryd.ntmps22
    go_wp2
    go_ret
    exact ⟨rfl, rfl⟩
  · by_cases h2 : 2147483647 < n
    · have hr : wrongN n = 5 := if_pos (.inr h2)
      rw [hr]
      clear hr
      go_enter Tryd.func22, Tryd.ntmps22
      go_wp2
      go_ret
      exact ⟨rfl, rfl⟩
    · have hr : wrongN n = 0 := if_neg (fun h => h.elim h1 h2)
      rw [hr]
      clear hr
      go_enter Tryd.func22, Tryd.ntmps22
      go_wp2
      go_ret
      exact ⟨rfl, rfl⟩

def BareJ (nb : Nat) (c : Cmd8) (fs : List Nat) (i : Nat) (W : World) : Prop := CmdAt W nb (bareC c (fs.take i))
theorem bareC_nil (c : Cmd8) : bareC c [] = c := by funext k; unfold bareC; simp
theorem take_fresh {fs : List Nat} (hd : fs.Nodup) {i j : Nat} (h : fs[i]? = some j) : ¬ j ∈ fs.take i := by
  intro hm
  obtain ⟨k, hk, e⟩ := List.getElem_of_mem hm
  obtain ⟨hi, rfl⟩ := List.getElem?_eq_some_iff.1 h
  rw [List.getElem_take] at e
  have hk' : k < i := by rw [List.length_take] at hk; omega
  exact absurd ((List.getElem_inj hd).1 e) (by omega)
theorem bareC_step {c : Cmd8} {fs : List Nat} {i j : Nat} (h : fs[i]? = some j) : updC (bareC c (fs.take i)) j 0 = bareC c (fs.take (i + 1)) := by
  funext k
  rw [List.take_add_one, h]
  unfold updC bareC
  by_cases e : k = j
  · rw [if_pos e, if_pos (by simp [e])]
  · rw [if_neg e]
    by_cases hm : k ∈ fs.take i
    · rw [if_pos hm, if_pos (by simp [hm])]
    · rw [if_neg hm, if_neg (by simp [hm, e])]

theorem bare_step (nb : Nat) (c : Cmd8) {op : Int} (fs : List Nat) (hfs : fieldsT op = some fs) : StepJ 22 #[] nb fs (fun i => wrongN (c (atF fs i))) (fun k => k = nb) (BareJ nb c fs) := by
  intro i j W hij hJ
  have hj := fieldsT_lt hfs j (List.mem_of_getElem? hij)
  have hv : bareC c (fs.take i) j = c j := by unfold bareC; rw [if_neg (take_fresh (fieldsT_nodup hfs) hij)]
  refine (check1_any nb j _ W hj.2 hJ).mono ?_
  rintro e W' ⟨rfl, rfl⟩
  rw [hv]
  refine ⟨by show _ = Ending.returned (.int .i64 (wrongN (c (atF fs i)))); rw [atF_eq hij], (Apart.refl (fun k => k = nb) W).set (p := ⟨nb, j, none⟩) (.inl rfl) _, ?_⟩
  unfold BareJ
  rw [← bareC_step hij]
  exact CmdAt.set hJ hj.2 0

set_option maxRecDepth 100000 in
set_option maxHeartbeats 1000000 in
theorem check_any (eg1 : EG 27) (eg2 : EG 41) (eg3 : EG 22) (c : Cmd8) (w : World) (hg : EType w) :
    Calls Tryd.prog 10 #[.agg (cmdA c)] w (RetE (checkK c) w) := by
  have b1 : Below w.heap.size w (w.alloc (.cells (cmdA c) 23)) := (Below.refl _ _).alloc (Nat.le_refl _) _
  have hc : CmdAt (w.alloc (.cells (cmdA c) 23)) w.heap.size c := World.alloc_heap_new _ _
  have HF := Lib.hid (fields_any eg1 (c 0) (w.alloc (.cells (cmdA c) 23)))
  have HC := Lib.hid hc
  have HB := Lib.hid b1
  have HG := Lib.hid hg
  have h0 := hc.cell (j := 0) (by decide)
  clear b1 hc hg
  cases hfs : fieldsT (c 0) with
  | none =>
    have hr : fieldsN (c 0) = -1 := by unfold fieldsN; rw [hfs]
    have hk : checkK c = [(1, cmdS, c 0)] := by unfold checkK; rw [hfs]
    rw [hk]
    rw [hr] at HF
    clear hfs hr hk
    unfold cmdA at *
    go_enter Tryd.func10, Tryd.ntmps10
    go_wp2_with fail
    refine HF.out.mono ?_
    rintro e w1 ⟨rfl, hb1⟩
    have c1 := (HC.out.keep hb1).cell (j := 0) (by decide)
    have HB1 := Lib.hid (HB.out.trans (hb1.mono (by simp)))
    clear hb1 h0
    go_wp2_with fail
    refine (new_any 1 cmdS (c 0) w1).mono ?_
    rintro e w2 ⟨v, rfl, he, hb2⟩
    have HE := Lib.hid he
    have HB2 := Lib.hid hb2
    clear he hb2
    go_wp2
    go_ret
    exact ⟨v, rfl, HE.out.weaken HB1.out.size, HB1.out.trans (HB2.out.mono HB1.out.size)⟩
  | some fs =>
    have hr : fieldsN (c 0) = (fs.length : Int) := by unfold fieldsN; rw [hfs]
    rw [hr] at HF
    have hlen := fieldsT_len hfs
    have HFS := Lib.hid hfs
    clear hfs hr
    go_enter Tryd.func10, Tryd.ntmps10
    go_wp2_with fail
    refine HF.out.mono ?_
    rintro e w1 ⟨rfl, hb1⟩
    have c1 := HC.out.keep hb1
    have HC1 := Lib.hid c1
    obtain ⟨d0, d1, d2, d3, d4, d5, d6, d7⟩ := c1.eight
    have HB1 := Lib.hid (HB.out.trans (hb1.mono (by simp)))
    clear hb1 h0 c1
    go_wp2_with fail
    have HC2 := Lib.hid (show CmdAt (w1.alloc (.cells (cmdA c) 23)) w1.heap.size c from World.alloc_heap_new _ _)
    have HB2 := Lib.hid (show Below w1.heap.size w1 (w1.alloc (.cells (cmdA c) 23)) from (Below.refl _ _).alloc (Nat.le_refl _) _)
    have hbk : w.heap.size < w1.heap.size := HC1.out.lt
    refine (firstWrong_any 22 #[] eg3 eg2 w1.heap.size (c 0) fs HFS.out _ (fun k => k = w1.heap.size) (BareJ w1.heap.size c fs) _ (HC2.out.cell (j := 0) (by decide)) (by simp) (fun k e => by subst e; simp) ?hst (by unfold BareJ; rw [List.take_zero, bareC_nil]; exact HC2.out) (bare_step w1.heap.size c fs HFS.out)).mono ?_
    case hst => exact fun i W W' hb h => (hb.block _ (by simp)).trans h
    rintro e w2 ⟨v, rfl, he, ha, hJ⟩
    have hbare : CmdAt w2 w1.heap.size (bareC c fs) := by unfold BareJ at hJ; rwa [List.take_length] at hJ
    have hc3 : CmdAt w2 w.heap.size c := (HC1.out.keep HB2.out).apart ha (by omega)
    have HC3 := Lib.hid hc3
    have HB3 := Lib.hid (HB1.out.trans ((HB2.out.mono HB1.out.size).trans (ha.below (by have := HB1.out.size; simp; omega) (fun k hk e => by omega))))
    have HE := Lib.hid (he.weaken (lo' := w.heap.size) (by simp; omega))
    have hev := he.cases
    have k0 := hc3.cell (j := 0) (by decide)
    obtain ⟨q0, q1, q2, q3, q4, q5, q6, q7⟩ := hbare.eight
    clear he ha hJ hbare hc3 d0 d1 d2 d3 d4 d5 d6 d7
    rcases hev with ⟨rfl, hk⟩ | ⟨b', rfl, hk⟩
    · have hn := fun W => run_neq_nil_nil (P := Tryd.prog) W 27 (by kernel_rfl)
      have HCK := Lib.hid (show checkK c = if eq8 (bareC c fs) (opC (c 0)) then [] else [(1, cmdS, c 0)] by
        unfold checkK
        rw [HFS.out]
        simp only
        rw [if_neg (by rw [hk]; simp), bare_only (fieldsT_lt HFS.out)])
      clear hk hn
      go_wp2_with fail
      all_goals clear q0 q1 q2 q3 q4 q5 q6 q7
      all_goals first
        | (refine (new_any 1 cmdS (c 0) w2).mono ?_
           rintro e w3 ⟨v3, rfl, he3, hb3⟩
           have hqf : eq8 (bareC c fs) (opC (c 0)) = false := by simp [eq8, opC, *]
           have HCK2 := Lib.hid (show checkK c = [(1, cmdS, c 0)] by rw [HCK.out, hqf]; rfl)
           have HE3 := Lib.hid he3
           have HB4 := Lib.hid hb3
           clear he3 hb3 hqf
           go_wp2
           go_ret
           exact ⟨v3, rfl, by rw [HCK2.out]; exact HE3.out.weaken HB3.out.size, HB3.out.trans (HB4.out.mono HB3.out.size)⟩)
        | (go_ret
           have hqt : eq8 (bareC c fs) (opC (c 0)) = true := by simp [eq8, opC, *]
           exact ⟨.nilIface, rfl, by rw [HCK.out, hqt]; exact ErrAt.nil _ _, HB3.out⟩)
    · have hn := fun W x => run_neq_held_nil (P := Tryd.prog) W 27 80 x (by kernel_rfl)
      obtain ⟨i, hi, hne, _, hfk⟩ := (firstK_cases (fun i => wrongN (c (atF fs i))) fs.length).resolve_left (fun h => hk h.1)
      have h5 : wrongN (c (atF fs i)) = 5 := by
        have : wrongN (c (atF fs i)) ≠ 0 := hne
        unfold wrongN at this ⊢
        split <;> simp_all
      have HCK := Lib.hid (show checkK c = (5, cmdS, c 0) :: (5, fieldS, ((i + 1 : Nat) : Int)) :: [] by
        unfold checkK
        rw [HFS.out]
        simp only
        rw [if_pos hk, hfk, h5])
      have HE2 := Lib.hid (show ErrAt w.heap.size w2 (.iface 80 (.pointer (some ⟨b', 0, none⟩))) ((5, fieldS, ((i + 1 : Nat) : Int)) :: []) by have := HE.out; rwa [hfk, h5] at this)
      clear hk hne hfk h5 hi
      go_wp2_with fail
      refine (wrapE_any b' _ _ cmdS (c 0) w.heap.size w2 (HG.out.later HB3.out) HB3.out.size HE2.out).mono ?_
      rintro e w3 ⟨v3, rfl, he3, hb3, _⟩
      have HE3 := Lib.hid he3
      have HB4 := Lib.hid hb3
      clear he3 hb3
      go_wp2
      go_ret
      exact ⟨v3, rfl, by rw [HCK.out]; exact HE3.out, HB3.out.trans (HB4.out.mono HB3.out.size)⟩
end Go.Proofs.YtnddojngbolbfaaDoor
