/-
  hasUnit and Check of the program; Check of the document.
  Conditions: the slices read as wants of ints.
-/
import Derived.Test.YtiadnpipbocecaaGreatM11
import Derived.Test.YtiadnpipbocecaaGreatM03

/-
  hasUnit and Check of the program; Check of the document.
  Conditions: the slices read as wants of ints.
-/
set_option linter.unusedVariables false
namespace Go.Proofs.YtiadnpipbocecaaGreat
open Go.RowKit

theorem unitPred_any (u : Int) (B : Nat) (p : Sp) (W : World) (hB : B < W.heap.size) (hc : W.cell? ⟨B, 0, none⟩ = some (.int .i64 u)) :
    Calls Tryz.prog 84 #[.agg #[.int .i64 p.1, .int .i64 p.2], .pointer (some ⟨B, 0, none⟩)] W (RetB (.bool (decide (p.1 = u))) W) := by
  obtain ⟨a, b⟩ := p
  simp only
  have hne : B ≠ W.heap.size := by omega
  have hd : (a == u) = decide (a = u) := by by_cases h : a = u <;> simp [h]
  go_enter Tryz.func84, Tryz.ntmps84
  go_wp2
  all_goals go_ret
  all_goals exact ⟨by simp_all, (Below.refl _ _).alloc (Nat.le_refl _) _⟩

theorem hasUnit_any (v : Value) (ps : List Sp) (u : Int) (w : World) (h : SpansAt w v ps) :
    Calls Tryz.prog 57 #[v, .int .i64 u] w (RetB (.bool (ps.any fun s => decide (s.1 = u))) w) := by
  have eg : ∀ args w, (callFunc 84 args).run Tryz.prog w = .ok (.enter 84 args) w := enters_of Tryz.func84 (by kernel_rfl) rfl
  have hb0 : Below w.heap.size w (w.alloc (.cells #[.int .i64 u] 3)) := (Below.refl _ _).alloc (Nat.le_refl _) _
  have HC := Lib.hid (contains_any _ #[.pointer (some ⟨w.heap.size, 0, none⟩)] eg (fun s => decide (s.1 = u)) v ps (w.alloc (.cells #[.int .i64 u] 3)) (fun W p hb => by
    refine unitPred_any u w.heap.size p W (by have := hb.size; simp at this; omega) ?_
    rw [hb.cell (p := ⟨w.heap.size, 0, none⟩) (by simp)]
    simp) (h.keep hb0))
  have HB := Lib.hid hb0
  generalize (ps.any fun s => decide (s.1 = u)) = r at *
  clear h hb0
  go_enter Tryz.func57, Tryz.ntmps57
  go_wp2_with (go_at_call 83; refine HC.out.mono ?_; rintro e w' ⟨rfl, hb⟩)
  go_ret
  exact ⟨rfl, HB.out.trans (hb.mono (by simp))⟩

/-- The first i of a slice. -/
theorem SpansAt.cut {W : World} {A : Option Addr} {n c : Nat} {ps : List Sp} {i : Nat} (h : SpansAt W (.slice A n c) ps) (hi : i ≤ n) : SpansAt W (.slice A i c) (ps.take i) := by
  obtain ⟨A', c', h1, h2, h3, h4, h5⟩ := h
  injection h1 with e1 e2 e3
  subst e1 e2 e3
  have hl : (ps.take i).length = i := by rw [List.length_take]; omega
  refine ⟨A, c, by rw [hl], by omega, by omega, h4, fun hn => ?_⟩
  obtain ⟨b, off, e, hlt, hc⟩ := h5 (by omega)
  refine ⟨b, off, e, hlt, fun j p hj => hc j p ?_⟩
  rw [List.getElem?_take] at hj
  split at hj
  · exact hj
  · cases hj

def ChkRel (n : Nat) (f : Int) (ps : List Sp) (R : Int) (w : World) (gg : Nat) (s18 : Value) (wr : World) : Prop :=
  ∃ i : Nat, i ≤ n ∧ gg = n - i ∧ s18 = .int .i64 i ∧ Below w.heap.size w wr ∧ chkL f (ps.take i) (ps.drop i) = R

set_option maxRecDepth 100000 in
set_option maxHeartbeats 4000000 in
theorem check_any (f : Int) (v : Value) (ps : List Sp) (w : World) (h : SpansAt w v ps) (hi : IntsS ps) : Calls Tryz.prog 33 #[.int .i64 f, v] w (RetB (.int .i64 (chkT f ps)) w) := by
  by_cases hf1 : f < 2
  · have HR : Hid (chkT f ps = 1) := if_pos (.inl hf1)
    obtain ⟨A, c, rfl, _⟩ := h
    go_enter Tryz.func33, Tryz.ntmps33
    go_wp2
    go_ret
    exact ⟨by rw [HR.out]; rfl, Below.refl _ _⟩
  · by_cases hf2 : 64 < f
    · have HR : Hid (chkT f ps = 1) := if_pos (.inr hf2)
      obtain ⟨A, c, rfl, _⟩ := h
      go_enter Tryz.func33, Tryz.ntmps33
      go_wp2
      go_ret
      exact ⟨by rw [HR.out]; rfl, Below.refl _ _⟩
    · obtain ⟨R, hR⟩ : ∃ R, chkT f ps = R := ⟨_, rfl⟩
      have HR : Hid (chkL f [] ps = R) := by rw [← hR]; exact (if_neg (by omega)).symm
      rw [hR]
      have HS := Lib.hid h
      obtain ⟨A, c, rfl, hc1, hlen, hc2, hat⟩ := h
      have HAT := Lib.hid hat
      have HI := Lib.hid hi
      generalize hn : ps.length = n at *
      have HN := Lib.hid hn
      have HU := Lib.hid (fun v ps u w h => hasUnit_any v ps u w h)
      clear hat hn hR hi
      go_enter Tryz.func33, Tryz.ntmps33
      go_wp2_with fail
      go_loopg [5, 6, 7, 8, 9, 18] n (fun gg _ _ _ _ _ s18 wr => ChkRel n f ps R w gg s18 wr)
      case atStart => exact ⟨0, Nat.zero_le _, by omega, rfl, Below.refl _ _, HR.out⟩
      case round =>
        obtain ⟨i, hin, hgg, rfl, hbw, hchk⟩ := hrel
        have HG := Lib.hid hgg
        have HB := Lib.hid hbw
        have HK := Lib.hid hchk
        have hsz := hbw.size
        clear hgg hbw hchk
        by_cases hlt : i < n
        · have hltz : (i : Int) < (n : Int) := by omega
          obtain ⟨b, off, hA, hbl, hcell⟩ := HAT.out (by omega)
          subst hA
          obtain ⟨y, hy⟩ := ex_at (xs := ps) (k := i) (by rw [HN.out]; exact hlt)
          obtain ⟨c1, c2⟩ := (hcell i y hy).keep HB.out hbl
          obtain ⟨a1, a2⟩ := (HI.out.at_ hy).1
          have HY := Lib.hid hy
          have hkind := fun W => kind_any y.1 a1 a2 W
          have HBX := Lib.hid (HB.out.alloc hsz (Obj.cells #[.int .i64 y.1, .int .i64 y.2] 45))
          cases hu : isU y.1
          · have HKI : Hid (∀ W, Calls Tryz.prog 56 #[.int .i64 y.1] W (Ret (.tuple #[.int .i64 (kindI y.1), .bool (kindG y.1), .bool false]) W)) := by
              intro W; have := hkind W; rw [hu] at this; exact this
            have HRN : Hid (R = 20) := by
              have e := chkE_id (f := f) (b := ps.take i) hu
              exact (chk_bad hy (by rw [e]; decide) HK.out).trans e
            obtain ⟨y1, y2⟩ := y
            simp only at c1 c2 HKI HBX
            generalize kindI y1 = k1 at *
            generalize kindG y1 = k2 at *
            clear hcell hy hkind hu a1 a2
            go_wp2_with (go_at_call 56; refine (HKI.out _).mono ?_; rintro e w' ⟨rfl, rfl⟩)
            go_ret
            exact ⟨by rw [HRN.out]; rfl, HBX.out⟩
          · have HKI : Hid (∀ W, Calls Tryz.prog 56 #[.int .i64 y.1] W (Ret (.tuple #[.int .i64 (kindI y.1), .bool (kindG y.1), .bool true]) W)) := by
              intro W; have := hkind W; rw [hu] at this; exact this
            by_cases hs1 : y.2 < 1
            · have HRN : Hid (R = 21) := by
                have e := chkE_share (f := f) (b := ps.take i) hu (.inl hs1)
                exact (chk_bad hy (by rw [e]; decide) HK.out).trans e
              obtain ⟨y1, y2⟩ := y
              simp only at c1 c2 HKI HBX hs1
              generalize kindI y1 = k1 at *
              generalize kindG y1 = k2 at *
              clear hcell hy hkind hu a1 a2
              go_wp2_with (go_at_call 56; refine (HKI.out _).mono ?_; rintro e w' ⟨rfl, rfl⟩)
              go_ret
              exact ⟨by rw [HRN.out]; rfl, HBX.out⟩
            · by_cases hs2 : f < y.2
              · have HRN : Hid (R = 21) := by
                  have e := chkE_share (f := f) (b := ps.take i) hu (.inr hs2)
                  exact (chk_bad hy (by rw [e]; decide) HK.out).trans e
                obtain ⟨y1, y2⟩ := y
                simp only at c1 c2 HKI HBX hs1 hs2
                generalize kindI y1 = k1 at *
                generalize kindG y1 = k2 at *
                clear hcell hy hkind hu a1 a2
                go_wp2_with (go_at_call 56; refine (HKI.out _).mono ?_; rintro e w' ⟨rfl, rfl⟩)
                go_ret
                exact ⟨by rw [HRN.out]; rfl, HBX.out⟩
              · have HCUT := Lib.hid ((HS.out.keep HB.out).cut (i := i) (by omega))
                have hic : (i : Int) ≤ (c : Int) := by omega
                have hi0 : (0 : Int) ≤ (i : Int) := by omega
                have HUY : Hid (∀ W', Below wr.heap.size wr W' → Calls Tryz.prog 57 #[.slice (some ⟨b, off, none⟩) i c, .int .i64 y.1] W' (RetB (.bool ((ps.take i).any fun s => decide (s.1 = y.1))) W')) := fun W' hb => HU.out _ _ _ W' (HCUT.out.keep hb)
                obtain ⟨T, hT⟩ : ∃ T, ((ps.take i).any fun s => decide (s.1 = y.1)) = T := ⟨_, rfl⟩
                rw [hT] at HUY
                have HTT : Hid (if T then R = 11 else chkL f (ps.take (i + 1)) (ps.drop (i + 1)) = R) := by
                  cases T
                  · exact chk_ok hy (chkE_ok hu hs1 hs2 hT) HK.out
                  · have e := chkE_two (f := f) hu hs1 hs2 hT
                    show R = 11
                    exact (chk_bad hy (by rw [e]; decide) HK.out).trans e
                obtain ⟨y1, y2⟩ := y
                simp only at c1 c2 HKI HBX HUY hs1 hs2
                generalize kindI y1 = k1 at *
                generalize kindG y1 = k2 at *
                have HX0 := Lib.hid (show Below wr.heap.size wr (wr.alloc (Obj.cells #[Value.int .i64 y1, Value.int .i64 y2] 45)) from (Below.refl _ _).alloc (Nat.le_refl _) _)
                clear hcell hy hkind hu a1 a2 hT
                cases T
                · have HT2 : Hid (chkL f (ps.take (i + 1)) (ps.drop (i + 1)) = R) := HTT.out
                  clear HTT
                  go_wp2_with (go_at_call 56; refine (HKI.out _).mono ?_; rintro e w' ⟨rfl, rfl⟩)
                  go_wp2_with fail
                  go_region_held3 (fun w' => w'.cell? ⟨wr.heap.size, 0, none⟩ = some (.int .i64 y1))
                    (first | go_keep | exact (hb.cell (p := ⟨wr.heap.size, 0, none⟩) (by simp)).trans (by simp))
                    (first | (go_at_call 57; refine (HUY.out _ HX0.out.drew).mono ?_; rintro e w' ⟨rfl, hb⟩))
                  have HB5 := Lib.hid (HBX.out.drew.trans (hb.mono (by simp; omega)))
                  clear hb
                  go_wp2
                  go_roundg (n - (i + 1))
                  case measure => have := HG.out; omega
                  case rel => exact ⟨i + 1, by omega, rfl, by go_num, HB5.out, HT2.out⟩
                · have HRN : Hid (R = 11) := HTT.out
                  clear HTT
                  go_wp2_with (go_at_call 56; refine (HKI.out _).mono ?_; rintro e w' ⟨rfl, rfl⟩)
                  go_wp2_with fail
                  go_region_held3 (fun w' => w'.cell? ⟨wr.heap.size, 0, none⟩ = some (.int .i64 y1))
                    (first | go_keep | exact (hb.cell (p := ⟨wr.heap.size, 0, none⟩) (by simp)).trans (by simp))
                    (first | (go_at_call 57; refine (HUY.out _ HX0.out.drew).mono ?_; rintro e w' ⟨rfl, hb⟩))
                  have HB5 := Lib.hid (HBX.out.drew.trans (hb.mono (by simp; omega)))
                  clear hb
                  go_wp2
                  go_ret
                  exact ⟨by rw [HRN.out]; rfl, HB5.out⟩
        · have hin' : i = n := by omega
          subst hin'
          have hltz : ¬ (i : Int) < (i : Int) := by omega
          have HRN : Hid (R = 0) := by
            have := HK.out
            rw [List.drop_eq_nil_of_le (by rw [HN.out]; exact Nat.le_refl _)] at this
            exact this.symm
          go_wp2
          go_ret
          exact ⟨by rw [HRN.out]; rfl, HB.out⟩

theorem any_unit {ps : List Sp} {u : Int} (h : ∀ (j : Nat) (s : Sp), ps[j]? = some s → s.1 ≠ u) : (ps.any fun s => decide (s.1 = u)) = false := by
  rw [List.any_eq_false]
  intro s hs
  obtain ⟨j, hj, e⟩ := List.getElem_of_mem hs
  have := h j s (by rw [List.getElem?_eq_getElem hj, e])
  simpa using this
theorem any_unit_yes {ps : List Sp} {u : Int} {j : Nat} {s : Sp} (h : ps[j]? = some s) (hu : s.1 = u) : (ps.any fun s => decide (s.1 = u)) = true :=
  List.any_eq_true.2 ⟨s, List.mem_of_getElem? h, by simpa using hu⟩
end Go.Proofs.YtiadnpipbocecaaGreat
