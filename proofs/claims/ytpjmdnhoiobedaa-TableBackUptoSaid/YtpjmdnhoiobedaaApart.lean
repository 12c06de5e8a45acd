/-
  The document's apart: at no tick of a core are there two.
  Conditions: the slice reads as places; the numbers are of their kinds.
-/
import Derived.Test.YtpjmdnhoiobedaaLoads
set_option linter.unusedVariables false
namespace Go.Proofs.Ytpjmdnhoiobedaa
open Go.RowKit Go.Sort

def ApartD (q : List Pc) : Prop := ∀ c : Nat, c < 16 → ∀ t, t < 64 → nOn q (c : Int) t ≤ 1
theorem pcs_len : ∀ (l : List Pl), (∀ x ∈ l, x.ps.length ≤ 1000) → (pcsOf l).length ≤ 1000 * l.length
  | [], _ => Nat.le_refl _
  | x :: l, h => by
    have h1 := h x (by simp)
    have h2 := pcs_len l fun y hy => h y (by simp [hy])
    rw [pcsOf_cons, List.length_append, List.length_cons]
    omega
theorem nOn_bound {l : List Pl} (hL : LightL l) (k : Nat) (c : Int) (t : Nat) : nOn (pcsOf (l.take k)) c t ≤ 1000000 := by
  have h1 := pcs_len (l.take k) fun x hx => (hL.ok x (List.mem_of_mem_take hx)).2
  have h2 := hL.len
  have h3 : nOn (pcsOf (l.take k)) c t ≤ (pcsOf (l.take k)).length := List.countP_le_length
  rw [List.length_take] at h1
  omega

set_option maxRecDepth 100000 in
set_option maxHeartbeats 4000000 in
theorem apart_any (f : Int) (m : Nat) (v : Value) (l : List Pl) (w : World) (h : PlsAt w v l) (hL : LightL l) :
    Calls Try.prog 26 #[planA f m v] w (RetIff (ApartD (pcsOf l)) w) := by
  have HO := Lib.hid hL.ok
  have HNB := Lib.hid (fun k c t => nOn_bound hL k c t)
  have hl : l.length ≤ 1000 := by have := hL.len; omega
  clear hL
  obtain ⟨A, cA, rfl, hlc, hcm⟩ := h.form
  have HL := Lib.hid h
  obtain ⟨w1, P, hw1, hP, hPl, hb1, hbox⟩ := box_any w #[.int .i64 f, .int .u32 m, .slice A l.length cA] 25
  obtain ⟨n, hn⟩ : ∃ n, l.length = n := ⟨_, rfl⟩
  rw [hn] at HL hlc hl hw1 hbox ⊢
  have HN := Lib.hid hn
  have HB1 := Lib.hid hb1
  have HBOX := Lib.hid hbox
  obtain ⟨r0, r1, r2⟩ := three_heads hbox
  clear h hn hb1 hbox
  unfold planA
  go_enter Try.func26, Try.ntmps26
  go_wp2_with fail
  clear hw1 hP r0 r1 r2
  go_loopg [3, 4, 5, 6] 16 (fun gg s3 _ _ _ wr => ∃ c : Nat, c ≤ 16 ∧ gg = 16 - c ∧ s3 = .int .i64 c ∧ Hid (∀ c' : Nat, c' < c → ∀ t, t < 64 → nOn (pcsOf l) (c' : Int) t ≤ 1) ∧ Below w1.heap.size w1 wr)
  case atStart => exact ⟨0, Nat.zero_le _, by omega, rfl, fun c' h => absurd h (Nat.not_lt_zero _), Below.refl _ _⟩
  case round =>
    obtain ⟨c, hc, hgc, rfl, HC, hbc⟩ := hrel
    have HGC := Lib.hid hgc
    have HBC := Lib.hid hbc
    obtain ⟨wo, rfl⟩ : ∃ wo : World, wo = wr := ⟨_, rfl⟩
    clear hgc hbc
    by_cases hlc : c < 16
    · have hlcz : (c : Int) < 16 := by omega
      go_wp2_with fail
      go_loopg [4, 5, 6] 64 (fun gg s4 _ _ wr => ∃ t : Nat, t ≤ 64 ∧ gg = 64 - t ∧ s4 = .int .i64 t ∧ Hid (∀ t', t' < t → nOn (pcsOf l) (c : Int) t' ≤ 1) ∧ Below w1.heap.size w1 wr)
      case atStart => exact ⟨0, Nat.zero_le _, by omega, rfl, fun t' h => absurd h (Nat.not_lt_zero _), HBC.out⟩
      case round =>
        obtain ⟨t, ht, hgt, rfl, HT, hbt⟩ := hrel
        have HGT := Lib.hid hgt
        have HBT := Lib.hid hbt
        obtain ⟨wp, rfl⟩ : ∃ wp : World, wp = wr := ⟨_, rfl⟩
        clear hgt hbt
        by_cases hlT : t < 64
        · have hlTz : (t : Int) < 64 := by omega
          go_wp2_with fail
          go_loopg [5, 6] n (fun gg s5 s6 wr => ∃ k q : Nat, k ≤ n ∧ gg = n - k ∧ s6 = .int .i64 k ∧ s5 = .int .i64 q ∧ Hid (q = nOn (pcsOf (l.take k)) (c : Int) t) ∧ Below w1.heap.size w1 wr)
          case atStart => exact ⟨0, 0, Nat.zero_le _, by omega, rfl, rfl, rfl, HBT.out⟩
          case round =>
            obtain ⟨k, q, hk, hg, rfl, rfl, HQ, hbw⟩ := hrel
            have hqb : q ≤ 1000000 := by rw [HQ]; exact HNB.out _ _ _
            have HBW := Lib.hid hbw
            have HB := Lib.hid (HB1.out.trans (hbw.mono HB1.out.size))
            have HG := Lib.hid hg
            have hPl2 : P < wr.heap.size := Nat.lt_of_lt_of_le hPl hbw.size
            have HBX := Lib.hid ((hbw.block P hPl).trans HBOX.out)
            obtain ⟨r0, r1, r2⟩ := three_heads HBX.out
            have HLR := Lib.hid (HL.out.keep HB.out)
            clear hbw hg
            by_cases hlt : k < n
            · have hk0 : (0 : Int) ≤ (k : Int) := by omega
              have hltz : (k : Int) < (n : Int) := by omega
              obtain ⟨x, hx⟩ := exP_at (xs := l) (k := k) (by rw [HN.out]; exact hlt)
              obtain ⟨b, off, B, d, hA, hbl, _, ⟨c0, c1, c2, c3⟩, hps⟩ := HLR.out.at_ hx
              subst hA
              simp only at c0 c1 c2 c3
              have HX := Lib.hid hx
              have HPS := Lib.hid hps
              clear hx hps
              have hxo := HO.out x (List.mem_of_getElem? HX.out)
              have HAT := Lib.hid (at_any (.slice B x.ps.length d) x (c : Int) t wr HPS.out.any hxo.2 hxo.1.2.2.2 hlT)
              rw [nAt_on (by omega)] at HAT
              unfold plA at HAT
              have hzb : nOn x.ps (c : Int) t ≤ 1000 := Nat.le_trans List.countP_le_length hxo.2
              have HPT := Lib.hid (pcs_take HX.out)
              generalize hz : nOn x.ps (c : Int) t = z at *
              have HQ2 : Hid (q + z = nOn (pcsOf (l.take (k + 1))) (c : Int) t) := by
                show _ = _
                rw [HPT.out, nOn_append, hz, ← HQ]
              clear hz hxo
              go_wp2_with fail
              refine HAT.out.mono ?_
              rintro e w3 ⟨rfl, hb3⟩
              have HB3 := Lib.hid (HBW.out.trans (hb3.mono HBW.out.size))
              clear hb3
              go_wp2_with fail
              go_roundg (n - (k + 1))
              case measure => have := HG.out; omega
              case rel => exact ⟨k + 1, q + z, by omega, rfl, by go_num, by go_num, HQ2, HB3.out⟩
            · have hltz : ¬ (k : Int) < (n : Int) := by omega
              have HQE : Hid (q = nOn (pcsOf l) (c : Int) t) := by
                have h : q = nOn (pcsOf (l.take k)) (c : Int) t := HQ
                rwa [List.take_of_length_le (by rw [HN.out]; omega)] at h
              by_cases hq1 : 1 < q
              · have hq2 : (1 : Int) < (q : Int) := by omega
                have HNO := Lib.hid (show ¬ ApartD (pcsOf l) from fun h => by have := h c hlc t hlT; rw [← HQE] at this; omega)
                go_wp2_with fail
                go_ret
                exact RetIff.no HNO.out HB.out
              · have hq2 : decide ((1 : Int) < (q : Int)) = false := decide_eq_false (by omega)
                have hq3 : decide (1 < q) = false := decide_eq_false hq1
                have HTN : Hid (∀ t', t' < t + 1 → nOn (pcsOf l) (c : Int) t' ≤ 1) := fun t' h => by
                  by_cases e : t' = t
                  · subst e; rw [← HQE]; omega
                  · exact HT t' (by omega)
                go_wp2_with fail
                go_roundg (64 - (t + 1))
                case measure => have := HGT.out; omega
                case rel => exact ⟨t + 1, by omega, rfl, by go_num, HTN, HBW.out⟩
        · have hlTz : ¬ (t : Int) < 64 := by omega
          have HCN : Hid (∀ c' : Nat, c' < c + 1 → ∀ t, t < 64 → nOn (pcsOf l) (c' : Int) t ≤ 1) := fun c' h t' ht' => by
            by_cases e : c' = c
            · subst e; exact HT t' (by omega)
            · exact HC c' (by omega) t' ht'
          go_wp2_with fail
          go_roundg (16 - (c + 1))
          case measure => have := HGC.out; omega
          case rel => exact ⟨c + 1, by omega, rfl, by go_num, HCN, HBT.out⟩
    · have hlcz : ¬ (c : Int) < 16 := by omega
      have HYE := Lib.hid (show ApartD (pcsOf l) from fun c' h => HC c' (by omega))
      have HBE := Lib.hid (HB1.out.trans (HBC.out.mono HB1.out.size))
      go_wp2
      go_ret
      exact RetIff.yes HYE.out HBE.out
end Go.Proofs.Ytpjmdnhoiobedaa
