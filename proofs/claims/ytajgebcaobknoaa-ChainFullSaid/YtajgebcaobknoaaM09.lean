/-
  Units: Unit, Kind, the document's Is and Group; a sum, or that it runs over.
  Conditions: the arguments are ints.
-/
import Derived.Test.YtajgebcaobknoaaM04
import Derived.Test.YtajgebcaobknoaaM02

/-
  The document's apart: at no tick of a core are there two.
  Conditions: the slice reads as places; the numbers are of their kinds.
-/
set_option linter.unusedVariables false
namespace Go.Proofs.Ytajgebcaobknoaa
open Go.RowKit Go.Sort

def ApartD (q : List Pc) : Prop := ∀ c : Nat, c < 16 → ∀ t, t < 64 → nOn q (c : Int) t ≤ 1
theorem pcs_len : ∀ (l : List Pl), (∀ x ∈ l, x.ps.length ≤ 1000) → (pcsOf l).length ≤ 1000 * l.length
  | [], _ => Nat.le_refl _
  | x :: l, h => by
    have h1 := h x (by simp)
    have h2 := pcs_len l fun y hy => h y (by simp [hy])
    rw [pcsOf_cons, List.length_append, List.length_cons]
    omega
theorem nOn_bound {l : List Pl} (hL : LightL l) (k : Nat) (c : Int) (t : Nat) : nOn (pcsOf (l.take k)) c t ≤ 1000000 := by
  have h1 := pcs_len (l.take k) fun x hx => (hL.ok x (List.mem_of_mem_take hx)).2
  have h2 := hL.len
  have h3 : nOn (pcsOf (l.take k)) c t ≤ (pcsOf (l.take k)).length := List.countP_le_length
  rw [List.length_take] at h1
  omega

set_option maxRecDepth 100000 in
set_option maxHeartbeats 4000000 in
theorem apart_any (f : Int) (m : Nat) (v : Value) (l : List Pl) (w : World) (h : PlsAt w v l) (hL : LightL l) :
    Calls Try.prog 24 #[planA f m v] w (RetIff (ApartD (pcsOf l)) w) := by
  have HO := Lib.hid hL.ok
  have HNB := Lib.hid (fun k c t => nOn_bound hL k c t)
  have hl : l.length ≤ 1000 := by have := hL.len; omega
  clear hL
  obtain ⟨A, cA, rfl, hlc, hcm⟩ := h.form
  have HL := Lib.hid h
  obtain ⟨w1, P, hw1, hP, hPl, hb1, hbox⟩ := box_any w #[.int .i64 f, .int .u32 m, .slice A l.length cA] 25
  obtain ⟨n, hn⟩ : ∃ n, l.length = n := ⟨_, rfl⟩
  rw [hn] at HL hlc hl hw1 hbox ⊢
  have HN := Lib.hid hn
  have HB1 := Lib.hid hb1
  have HBOX := Lib.hid hbox
  obtain ⟨r0, r1, r2⟩ := three_heads hbox
  clear h hn hb1 hbox
  unfold planA
  go_enter Try.func24, Try.ntmps24
  go_wp2_with fail
  clear hw1 hP r0 r1 r2
  go_loopg [3, 4, 5, 6] 16 (fun gg s3 _ _ _ wr => ∃ c : Nat, c ≤ 16 ∧ gg = 16 - c ∧ s3 = .int .i64 c ∧ Hid (∀ c' : Nat, c' < c → ∀ t, t < 64 → nOn (pcsOf l) (c' : Int) t ≤ 1) ∧ Below w1.heap.size w1 wr)
  case atStart => exact ⟨0, Nat.zero_le _, by omega, rfl, fun c' h => absurd h (Nat.not_lt_zero _), Below.refl _ _⟩
  case round =>
    obtain ⟨c, hc, hgc, rfl, HC, hbc⟩ := hrel
    have HGC := Lib.hid hgc
    have HBC := Lib.hid hbc
    obtain ⟨wo, rfl⟩ : ∃ wo : World, wo = wr := ⟨_, rfl⟩
    clear hgc hbc
    by_cases hlc : c < 16
    · have hlcz : (c : Int) < 16 := by omega
      go_wp2_with fail
      go_loopg [4, 5, 6] 64 (fun gg s4 _ _ wr => ∃ t : Nat, t ≤ 64 ∧ gg = 64 - t ∧ s4 = .int .i64 t ∧ Hid (∀ t', t' < t → nOn (pcsOf l) (c : Int) t' ≤ 1) ∧ Below w1.heap.size w1 wr)
      case atStart => exact ⟨0, Nat.zero_le _, by omega, rfl, fun t' h => absurd h (Nat.not_lt_zero _), HBC.out⟩
      case round =>
        obtain ⟨t, ht, hgt, rfl, HT, hbt⟩ := hrel
        have HGT := Lib.hid hgt
        have HBT := Lib.hid hbt
        obtain ⟨wp, rfl⟩ : ∃ wp : World, wp = wr := ⟨_, rfl⟩
        clear hgt hbt
        by_cases hlT : t < 64
        · have hlTz : (t : Int) < 64 := by omega
          go_wp2_with fail
          go_loopg [5, 6] n (fun gg s5 s6 wr => ∃ k q : Nat, k ≤ n ∧ gg = n - k ∧ s6 = .int .i64 k ∧ s5 = .int .i64 q ∧ Hid (q = nOn (pcsOf (l.take k)) (c : Int) t) ∧ Below w1.heap.size w1 wr)
          case atStart => exact ⟨0, 0, Nat.zero_le _, by omega, rfl, rfl, rfl, HBT.out⟩
          case round =>
            obtain ⟨k, q, hk, hg, rfl, rfl, HQ, hbw⟩ := hrel
            have hqb : q ≤ 1000000 := by rw [HQ]; exact HNB.out _ _ _
            have HBW := Lib.hid hbw
            have HB := Lib.hid (HB1.out.trans (hbw.mono HB1.out.size))
            have HG := Lib.hid hg
            have hPl2 : P < wr.heap.size := Nat.lt_of_lt_of_le hPl hbw.size
            have HBX := Lib.hid ((hbw.block P hPl).trans HBOX.out)
            obtain ⟨r0, r1, r2⟩ := three_heads HBX.out
            have HLR := Lib.hid (HL.out.keep HB.out)
            clear hbw hg
            by_cases hlt : k < n
            · have hk0 : (0 : Int) ≤ (k : Int) := by omega
              have hltz : (k : Int) < (n : Int) := by omega
              obtain ⟨x, hx⟩ := exP_at (xs := l) (k := k) (by rw [HN.out]; exact hlt)
              obtain ⟨b, off, B, d, hA, hbl, _, ⟨c0, c1, c2, c3⟩, hps⟩ := HLR.out.at_ hx
              subst hA
              simp only at c0 c1 c2 c3
              have HX := Lib.hid hx
              have HPS := Lib.hid hps
              clear hx hps
              have hxo := HO.out x (List.mem_of_getElem? HX.out)
              have HAT := Lib.hid (at_any (.slice B x.ps.length d) x (c : Int) t wr HPS.out.any hxo.2 hxo.1.2.2.2 hlT)
              rw [nAt_on (by omega)] at HAT
              unfold plA at HAT
              have hzb : nOn x.ps (c : Int) t ≤ 1000 := Nat.le_trans List.countP_le_length hxo.2
              have HPT := Lib.hid (pcs_take HX.out)
              generalize hz : nOn x.ps (c : Int) t = z at *
              have HQ2 : Hid (q + z = nOn (pcsOf (l.take (k + 1))) (c : Int) t) := by
                show _ = _
                rw [HPT.out, nOn_append, hz, ← HQ]
              clear hz hxo
              go_wp2_with fail
              refine HAT.out.mono ?_
              rintro e w3 ⟨rfl, hb3⟩
              have HB3 := Lib.hid (HBW.out.trans (hb3.mono HBW.out.size))
              clear hb3
              go_wp2_with fail
              go_roundg (n - (k + 1))
              case measure => have := HG.out; omega
              case rel => exact ⟨k + 1, q + z, by omega, rfl, by go_num, by go_num, HQ2, HB3.out⟩
            · have hltz : ¬ (k : Int) < (n : Int) := by omega
              have HQE : Hid (q = nOn (pcsOf l) (c : Int) t) := by
                have h : q = nOn (pcsOf (l.take k)) (c : Int) t := HQ
                rwa [List.take_of_length_le (by rw [HN.out]; omega)] at h
              by_cases hq1 : 1 < q
              · have hq2 : (1 : Int) < (q : Int) := by omega
                have HNO := Lib.hid (show ¬ ApartD (pcsOf l) from fun h => by have := h c hlc t hlT; rw [← HQE] at this; omega)
                go_wp2_with fail
                go_ret
                exact RetIff.no HNO.out HB.out
              · have hq2 : decide ((1 : Int) < (q : Int)) = false := decide_eq_false (by omega)
                have hq3 : decide (1 < q) = false := decide_eq_false hq1
                have HTN : Hid (∀ t', t' < t + 1 → nOn (pcsOf l) (c : Int) t' ≤ 1) := fun t' h => by
                  by_cases e : t' = t
                  · subst e; rw [← HQE]; omega
                  · exact HT t' (by omega)
                go_wp2_with fail
                go_roundg (64 - (t + 1))
                case measure => have := HGT.out; omega
                case rel => exact ⟨t + 1, by omega, rfl, by go_num, HTN, HBW.out⟩
        · have hlTz : ¬ (t : Int) < 64 := by omega
          have HCN : Hid (∀ c' : Nat, c' < c + 1 → ∀ t, t < 64 → nOn (pcsOf l) (c' : Int) t ≤ 1) := fun c' h t' ht' => by
            by_cases e : c' = c
            · subst e; exact HT t' (by omega)
            · exact HC c' (by omega) t' ht'
          go_wp2_with fail
          go_roundg (16 - (c + 1))
          case measure => have := HGC.out; omega
          case rel => exact ⟨c + 1, by omega, rfl, by go_num, HCN, HBT.out⟩
    · have hlcz : ¬ (c : Int) < 16 := by omega
      have HYE := Lib.hid (show ApartD (pcsOf l) from fun c' h => HC c' (by omega))
      have HBE := Lib.hid (HB1.out.trans (HBC.out.mono HB1.out.size))
      go_wp2
      go_ret
      exact RetIff.yes HYE.out HBE.out
end Go.Proofs.Ytajgebcaobknoaa

/-
  Units: Unit, Kind, the document's Is and Group; a sum, or that it runs over.
  Conditions: the arguments are ints.
-/
set_option linter.unusedVariables false
namespace Go.Proofs.Ytajgebcaobknoaa
open Go.RowKit

theorem and_dec (p q : Prop) [Decidable p] [Decidable q] : (decide p && decide q) = decide (p ∧ q) := by simp

theorem isTask_any (u : Int) (W : World) : Calls Try.prog 85 #[.int .i64 u] W (Ret (.bool (isTaskB u)) W) := by
  unfold isTaskB
  by_cases h1 : 1 ≤ u
  · have g1 : decide (1 ≤ u) = true := decide_eq_true h1
    rw [g1, Bool.true_and]
    go_enter Try.func85, Try.ntmps85
    go_wp2
    go_ret
    exact ⟨by simp_all, rfl⟩
  · have g1 : decide (1 ≤ u) = false := decide_eq_false h1
    rw [g1, Bool.false_and]
    go_enter Try.func85, Try.ntmps85
    go_wp2
    go_ret
    exact ⟨by simp_all, rfl⟩
theorem isGroup_any (u : Int) (W : World) : Calls Try.prog 86 #[.int .i64 u] W (Ret (.bool (isGroupB u)) W) := by
  unfold isGroupB
  by_cases h1 : 1 ≤ u
  · have g1 : decide (1 ≤ u) = true := decide_eq_true h1
    rw [g1, Bool.true_and]
    go_enter Try.func86, Try.ntmps86
    go_wp2
    go_ret
    exact ⟨by simp_all, rfl⟩
  · have g1 : decide (1 ≤ u) = false := decide_eq_false h1
    rw [g1, Bool.false_and]
    go_enter Try.func86, Try.ntmps86
    go_wp2
    go_ret
    exact ⟨by simp_all, rfl⟩

/-- What Unit answers: the unit (0: none), the error. -/
def unitU (id : Int) (g : Bool) : Int := if g then (if isGroupB id then id + 1000 else 0) else (if isTaskB id then id else 0)
def unitE (id : Int) (g : Bool) : Int := if g then (if isGroupB id then 0 else 20) else (if isTaskB id then 0 else 20)
/-- What Kind answers. -/
def kindI (u : Int) : Int := if isTaskB u then u else if isU u then u - 1000 else 0
def kindG (u : Int) : Bool := !isTaskB u && isU u
theorem isU_task {u : Int} (h : isTaskB u = true) : isU u = true := by unfold isTaskB at h; unfold isU; rw [h]; rfl
theorem group_wrap {u : Int} (h1 : -9223372036854775808 ≤ u) (h2 : u ≤ 9223372036854775807) (ht : isTaskB u = false) : isGroupB (wrap64 (u - 1000)) = isU u := by
  unfold isTaskB at ht
  unfold isGroupB isU
  rw [ht, Bool.false_or]
  unfold wrap64
  rw [Bool.eq_iff_iff]
  simp
  omega
theorem kind_any (u : Int) (h1 : -9223372036854775808 ≤ u) (h2 : u ≤ 9223372036854775807) (W : World) :
    Calls Try.prog 72 #[.int .i64 u] W (Ret (.tuple #[.int .i64 (kindI u), .bool (kindG u), .bool (isU u)]) W) := by
  have HG := Lib.hid (fun x W => isGroup_any x W)
  have HT := Lib.hid (fun W => isTask_any u W)
  unfold kindI kindG
  cases ht : isTaskB u
  · rw [ht] at HT
    have hg := group_wrap h1 h2 ht
    simp only [Bool.false_eq_true, if_false, Bool.not_false, Bool.true_and]
    cases hu : isU u
    · rw [hu] at hg
      have HGN := Lib.hid (fun W => by have := HG.out (wrap64 (u - 1000)) W; rw [hg] at this; exact this)
      simp only [Bool.false_eq_true, if_false]
      clear h1 h2 ht hg hu HG
      go_enter Try.func72, Try.ntmps72
      go_wp2_with (first
        | (go_at_call 85; refine (HT.out _).mono ?_; rintro e w' ⟨rfl, rfl⟩)
        | (go_at_call 86; refine (HGN.out _).mono ?_; rintro e w' ⟨rfl, rfl⟩))
      go_returns
      exact ⟨rfl, rfl⟩
    · rw [hu] at hg
      have HGN := Lib.hid (fun W => by have := HG.out (wrap64 (u - 1000)) W; rw [hg] at this; exact this)
      have hw : wrap64 (u - 1000) = u - 1000 := by
        unfold isTaskB at ht
        unfold isU at hu
        rw [ht] at hu
        simp at hu
        unfold wrap64
        omega
      simp only [if_true]
      rw [hw] at HGN
      clear h1 h2 ht hg hu HG
      go_enter Try.func72, Try.ntmps72
      go_wp2_with (first
        | (go_at_call 85; refine (HT.out _).mono ?_; rintro e w' ⟨rfl, rfl⟩)
        | (go_at_call 86; refine (HGN.out _).mono ?_; rintro e w' ⟨rfl, rfl⟩))
      go_returns
      exact ⟨rfl, rfl⟩
  · rw [ht] at HT
    rw [isU_task ht]
    simp only [if_true, Bool.not_true, Bool.false_and]
    clear h1 h2 ht HG
    go_enter Try.func72, Try.ntmps72
    go_wp2_with (go_at_call 85; refine (HT.out _).mono ?_; rintro e w' ⟨rfl, rfl⟩)
    go_returns
    exact ⟨rfl, rfl⟩

theorem is_any (u : Int) (W : World) : Calls Try.prog 42 #[.int .i64 u] W (Ret (.bool (isU u)) W) := by
  obtain ⟨r, hr⟩ : ∃ r, isU u = r := ⟨_, rfl⟩
  rw [hr]
  by_cases a1 : 1 ≤ u <;> by_cases a2 : u ≤ 200 <;> by_cases a3 : 1001 ≤ u <;> by_cases a4 : u ≤ 1040
  all_goals first
    | (exfalso; omega)
    | (have g1 : decide (1 ≤ u) = true := decide_eq_true a1
       have g2 : decide (u ≤ 200) = true := decide_eq_true a2
       obtain rfl : r = true := (by rw [← hr]; unfold isU; rw [g1, g2]; rfl)
       clear hr
       go_enter Try.func42, Try.ntmps42
       go_wp2
       go_ret
       exact ⟨by simp_all, rfl⟩)
    | (have g1 : decide (1 ≤ u) = true := decide_eq_true a1
       have g2 : decide (u ≤ 200) = false := decide_eq_false a2
       have g3 : decide (1001 ≤ u) = true := decide_eq_true a3
       have g4 : decide (u ≤ 1040) = true := decide_eq_true a4
       obtain rfl : r = true := (by rw [← hr]; unfold isU; rw [g1, g2, g3, g4]; rfl)
       clear hr
       go_enter Try.func42, Try.ntmps42
       go_wp2
       go_ret
       exact ⟨by simp_all, rfl⟩)
    | (have g1 : decide (1 ≤ u) = true := decide_eq_true a1
       have g2 : decide (u ≤ 200) = false := decide_eq_false a2
       have g3 : decide (1001 ≤ u) = true := decide_eq_true a3
       have g4 : decide (u ≤ 1040) = false := decide_eq_false a4
       obtain rfl : r = false := (by rw [← hr]; unfold isU; rw [g1, g2, g3, g4]; rfl)
       clear hr
       go_enter Try.func42, Try.ntmps42
       go_wp2
       go_ret
       exact ⟨by simp_all, rfl⟩)
    | (have g1 : decide (1 ≤ u) = true := decide_eq_true a1
       have g2 : decide (u ≤ 200) = false := decide_eq_false a2
       have g3 : decide (1001 ≤ u) = false := decide_eq_false a3
       obtain rfl : r = false := (by rw [← hr]; unfold isU; rw [g1, g2, g3]; rfl)
       clear hr
       go_enter Try.func42, Try.ntmps42
       go_wp2
       go_ret
       exact ⟨by simp_all, rfl⟩)
    | (have g1 : decide (1 ≤ u) = false := decide_eq_false a1
       have g3 : decide (1001 ≤ u) = false := decide_eq_false a3
       obtain rfl : r = false := (by rw [← hr]; unfold isU; rw [g1, g3]; rfl)
       clear hr
       go_enter Try.func42, Try.ntmps42
       go_wp2
       go_ret
       exact ⟨by simp_all, rfl⟩)
end Go.Proofs.Ytajgebcaobknoaa
