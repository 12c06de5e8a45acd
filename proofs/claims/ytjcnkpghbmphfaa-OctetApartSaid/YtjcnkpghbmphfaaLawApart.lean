/-
  OctetApart walked.
  Conditions: the numbers are words.
-/
import Derived.Test.YtjcnkpghbmphfaaAwake
import Derived.Lib.SlicesS
import Derived.Deep.Cut
import Derived.Deep.CutRange
set_option linter.unusedVariables false
namespace Go.Proofs.Ytjcnkpghbmphfaa
open Go.RowKit

theorem text_beq {xs ys : List Nat} {p : Bool} (hx : ∀ x ∈ xs, x < 256) (hy : ∀ y ∈ ys, y < 256) (h : xs = ys ↔ p = true) : ((textOf xs).toList == (textOf ys).toList) = p := by
  cases p
  · have hne : xs ≠ ys := fun e => by have := h.1 e; cases this
    have : textOf xs ≠ textOf ys := fun e => hne (textOf_inj hx hy e)
    exact (Lib.bytes_beq_false_iff _ _).2 this
  · have e := h.2 rfl
    subst e
    simp
theorem BytesAt.first {W : World} {A : Option Addr} {n c : Nat} {bs : List Nat} (h : BytesAt W (.slice A n c) bs) {k : Nat} (hk : k ≤ bs.length) : BytesAt W (.slice A k c) (bs.take k) := by
  obtain ⟨A0, c0, e, h2, h3, h4, h5, h6⟩ := h
  injection e with e1 e2 e3
  subst e1 e2 e3
  have hl : (bs.take k).length = k := by rw [List.length_take]; omega
  refine ⟨A, c, by rw [hl], by omega, h3, h4, fun x hx => h5 x (List.mem_of_mem_take hx), fun hp => ?_⟩
  obtain ⟨b, off, e, hlt, hc⟩ := h6 (by omega)
  refine ⟨b, off, e, hlt, fun j x hx => ?_⟩
  rw [List.getElem?_take] at hx
  split at hx
  · exact hc j x hx
  · cases hx
theorem apart_facts (a b : Nat) (ha : a < 18446744073709551616) (hb : b < 18446744073709551616) (k : Nat) (hk : k = min (enc a).length (enc b).length) :
    ((textOf ((enc a).take k)).toList == (textOf ((enc b).take k)).toList) = decide (a = b) ∧ ((textOf (enc a)).toList == (textOf (enc b)).toList) = decide (a = b) ∧ ((a : Int) == (b : Int)) = decide (a = b) := by
  refine ⟨text_beq (fun x hx => enc_bytes a x (List.mem_of_mem_take hx)) (fun x hx => enc_bytes b x (List.mem_of_mem_take hx)) ?_, text_beq (enc_bytes a) (enc_bytes b) ?_, ?_⟩
  · rw [decide_eq_true_iff]
    exact ⟨enc_prefix ha hb hk, fun e => by rw [e]⟩
  · rw [decide_eq_true_iff]
    exact ⟨enc_inj ha hb, fun e => by rw [e]⟩
  · by_cases h : a = b
    · subst h; simp
    · have h' : (a : Int) ≠ (b : Int) := by omega
      simp [h, h']

set_option maxRecDepth 100000 in
set_option maxHeartbeats 8000000 in
theorem apart_law (a b : Nat) (w : World) (ha : a < 18446744073709551616) (hb : b < 18446744073709551616) :
    Calls Try.prog 5 #[.int .u64 a, .int .u64 b] w (RetB (.bool true) w) := by
  have HNA := Lib.hid (fun W => num_any a W ha)
  have HNB := Lib.hid (fun W => num_any b W hb)
  have HAW := Lib.hid (fun W => awake_any W)
  have hpa := enc_pos a
  have hpb := enc_pos b
  have hta := enc_ten ha
  have htb := enc_ten hb
  have HF := Lib.hid (apart_facts a b ha hb _ rfl)
  go_enter Try.func5, Try.ntmps5
  go_wp2_with fail
  refine (HNA.out _).mono ?_
  rintro e w1 ⟨v1, rfl, hown1, hb1⟩
  have HP1 := Lib.hid hown1.bytes
  have HB1 := Lib.hid hb1
  clear hown1 hb1
  go_wp2_with fail
  refine (HNB.out _).mono ?_
  rintro e w2 ⟨v2, rfl, hown2, hb2⟩
  have HP2 := Lib.hid hown2.bytes
  have HP1' := Lib.hid (HP1.out.keep hb2)
  have HB2 := Lib.hid (HB1.out.trans (hb2.mono HB1.out.size))
  clear hown2 hb2 HP1 HB1 HNA HNB
  have h1 := HP1'.out
  have h2 := HP2.out
  obtain ⟨A1, c1, rfl, u1, _⟩ := h1
  obtain ⟨A2, c2, rfl, u2, _⟩ := h2
  have HT1 := Lib.hid (HP1'.out.first (k := min (enc a).length (enc b).length) (Nat.min_le_left _ _))
  have HT2 := Lib.hid (HP2.out.first (k := min (enc a).length (enc b).length) (Nat.min_le_right _ _))
  have hm1 : min (enc a).length (enc b).length ≤ (enc a).length := Nat.min_le_left _ _
  have hm2 : min (enc a).length (enc b).length ≤ (enc b).length := Nat.min_le_right _ _
  have hmm : min (enc a).length (enc b).length = (enc a).length ∨ min (enc a).length (enc b).length = (enc b).length := by omega
  have hmi : (min ((enc a).length : Int) ((enc b).length : Int)) = ((min (enc a).length (enc b).length : Nat) : Int) := by omega
  generalize min (enc a).length (enc b).length = k at *
  generalize (enc a).length = n1 at *
  generalize (enc b).length = n2 at *
  generalize decide (a = b) = p at *
  have y1 : ¬ ((n1 : Int) < 1) := by omega
  have y2 : ¬ (10 < (n1 : Int)) := by omega
  have y3 : ¬ ((n2 : Int) < 1) := by omega
  have y4 : ¬ (10 < (n2 : Int)) := by omega
  have z1 : (k : Int) ≤ (c1 : Int) := by omega
  have z2 : (k : Int) ≤ (c2 : Int) := by omega
  have z3 : (0 : Int) ≤ (k : Int) := by omega
  obtain ⟨f1, f2, f3⟩ := HF.out
  have F1 := Lib.hid f1
  have F2 := Lib.hid f2
  have F3 := Lib.hid f3
  clear f1 f2 f3 HF hpa hpb hta htb u1 u2
  go_upto_region 4 with fail
  go_cut [7] from 30 to 35 (fun s7 wc => s7 = .int .i64 k ∧ wc = w2)
  case first =>
    go_wp2_with fail
    all_goals go_meet
    all_goals exact ⟨by congr 1; omega, rfl⟩
  case rest =>
    obtain ⟨rfl, rfl⟩ := hcut
    clear hmm hmi hm1 hm2 y1 y2 y3 y4
    go_wp2_with fail
    have HDR := Lib.hid (show Below wc.heap.size wc wc.drew from below_drewN (Below.refl _ _) 1)
    refine wp_region_N (S1 := fun W => Below wc.heap.size wc W) (S2 := fun _ => True) (N := fun _ => false) (by kernel_rfl) ?_
    change wpAnyN _ _ _ _ _ _ _ 28 (Array.replicate 28 false) _ _
    refine wpAnyN_take false (i := 0) (v := .slice A1 n1 c1) rfl (by kernel_rfl) (by kernel_rfl) (by kernel_rfl) (fun _ _ _ h => h) (.inl ⟨by kernel_rfl, fun W hS => ?_⟩) ⟨HDR.out, fun h => by cases h⟩ ?_
    · simp [execOp, Act.eval, go_sem]
    refine wpAnyN_take false (i := 1) (v := .int .i64 k) rfl (by kernel_rfl) (by kernel_rfl) (by kernel_rfl) (fun _ _ _ h => h) (.inl ⟨by kernel_rfl, fun W hS => ?_⟩) ⟨HDR.out, fun h => by cases h⟩ ?_
    · simp [execOp, Act.eval, Act.put, go_sem]
    refine wpAnyN_take false (i := 2) (v := .slice A1 k c1) rfl (by kernel_rfl) (by kernel_rfl) (by kernel_rfl) (fun _ _ _ h => h) (.inl ⟨by kernel_rfl, fun W hS => ?_⟩) ⟨HDR.out, fun h => by cases h⟩ ?_
    · simp [execOp, Act.eval, Act.put, go_sem, z1, z3]
    refine wpAnyN_take false (i := 3) (v := .string (textOf ((enc a).take k))) rfl (by kernel_rfl) (by kernel_rfl) (by kernel_rfl) (fun _ _ _ h => h) (.inl ⟨by kernel_rfl, fun W hS => ?_⟩) ⟨HDR.out, fun h => by cases h⟩ ?_
    · simp [execOp, Act.eval, Act.put, go_sem, conv_text (HT1.out.keep hS.1) Try.underlying22 Try.underlying5 Try.underlying9]
    refine wpAnyN_take false (i := 4) (v := .slice A2 n2 c2) rfl (by kernel_rfl) (by kernel_rfl) (by kernel_rfl) (fun _ _ _ h => h) (.inl ⟨by kernel_rfl, fun W hS => ?_⟩) ⟨HDR.out, fun h => by cases h⟩ ?_
    · simp [execOp, Act.eval, Act.put, go_sem]
    refine wpAnyN_take false (i := 5) (v := .int .i64 k) rfl (by kernel_rfl) (by kernel_rfl) (by kernel_rfl) (fun _ _ _ h => h) (.inl ⟨by kernel_rfl, fun W hS => ?_⟩) ⟨HDR.out, fun h => by cases h⟩ ?_
    · simp [execOp, Act.eval, Act.put, go_sem]
    refine wpAnyN_take false (i := 6) (v := .slice A2 k c2) rfl (by kernel_rfl) (by kernel_rfl) (by kernel_rfl) (fun _ _ _ h => h) (.inl ⟨by kernel_rfl, fun W hS => ?_⟩) ⟨HDR.out, fun h => by cases h⟩ ?_
    · simp [execOp, Act.eval, Act.put, go_sem, z2, z3]
    refine wpAnyN_take false (i := 7) (v := .string (textOf ((enc b).take k))) rfl (by kernel_rfl) (by kernel_rfl) (by kernel_rfl) (fun _ _ _ h => h) (.inl ⟨by kernel_rfl, fun W hS => ?_⟩) ⟨HDR.out, fun h => by cases h⟩ ?_
    · simp [execOp, Act.eval, Act.put, go_sem, conv_text (HT2.out.keep hS.1) Try.underlying22 Try.underlying5 Try.underlying9]
    refine wpAnyN_take false (i := 8) (v := .bool p) rfl (by kernel_rfl) (by kernel_rfl) (by kernel_rfl) (fun _ _ _ h => h) (.inl ⟨by kernel_rfl, fun W hS => ?_⟩) ⟨HDR.out, fun h => by cases h⟩ ?_
    · simp [execOp, Act.eval, Act.put, go_sem, F1.out]
    refine wpAnyN_take false (i := 9) (v := .int .u64 a) rfl (by kernel_rfl) (by kernel_rfl) (by kernel_rfl) (fun _ _ _ h => h) (.inl ⟨by kernel_rfl, fun W hS => ?_⟩) ⟨HDR.out, fun h => by cases h⟩ ?_
    · simp [execOp, Act.eval, Act.put, go_sem]
    refine wpAnyN_take false (i := 10) (v := .int .u64 b) rfl (by kernel_rfl) (by kernel_rfl) (by kernel_rfl) (fun _ _ _ h => h) (.inl ⟨by kernel_rfl, fun W hS => ?_⟩) ⟨HDR.out, fun h => by cases h⟩ ?_
    · simp [execOp, Act.eval, Act.put, go_sem]
    refine wpAnyN_take false (i := 11) (v := .bool p) rfl (by kernel_rfl) (by kernel_rfl) (by kernel_rfl) (fun _ _ _ h => h) (.inl ⟨by kernel_rfl, fun W hS => ?_⟩) ⟨HDR.out, fun h => by cases h⟩ ?_
    · simp [execOp, Act.eval, Act.put, go_sem, F3.out]
    refine wpAnyN_take false (i := 12) (v := .bool true) rfl (by kernel_rfl) (by kernel_rfl) (by kernel_rfl) (fun _ _ _ h => h) (.inl ⟨by kernel_rfl, fun W hS => ?_⟩) ⟨HDR.out, fun h => by cases h⟩ ?_
    · simp [execOp, Act.eval, Act.put, go_sem]
    refine wpAnyN_take false (i := 13) (v := .bool true) rfl (by kernel_rfl) (by kernel_rfl) (by kernel_rfl) (fun _ _ _ h => h) (.inl ⟨by kernel_rfl, fun W hS => ?_⟩) ⟨HDR.out, fun h => by cases h⟩ ?_
    · simp [execOp, Act.eval, Act.put, go_sem]
    refine wpAnyN_take false (i := 14) (v := .slice A1 n1 c1) rfl (by kernel_rfl) (by kernel_rfl) (by kernel_rfl) (fun _ _ _ h => h) (.inl ⟨by kernel_rfl, fun W hS => ?_⟩) ⟨HDR.out, fun h => by cases h⟩ ?_
    · simp [execOp, Act.eval, Act.put, go_sem]
    refine wpAnyN_take false (i := 15) (v := .string (textOf (enc a))) rfl (by kernel_rfl) (by kernel_rfl) (by kernel_rfl) (fun _ _ _ h => h) (.inl ⟨by kernel_rfl, fun W hS => ?_⟩) ⟨HDR.out, fun h => by cases h⟩ ?_
    · simp [execOp, Act.eval, Act.put, go_sem, conv_text (HP1'.out.keep hS.1) Try.underlying22 Try.underlying5 Try.underlying9]
    refine wpAnyN_take false (i := 16) (v := .slice A2 n2 c2) rfl (by kernel_rfl) (by kernel_rfl) (by kernel_rfl) (fun _ _ _ h => h) (.inl ⟨by kernel_rfl, fun W hS => ?_⟩) ⟨HDR.out, fun h => by cases h⟩ ?_
    · simp [execOp, Act.eval, Act.put, go_sem]
    refine wpAnyN_take false (i := 17) (v := .string (textOf (enc b))) rfl (by kernel_rfl) (by kernel_rfl) (by kernel_rfl) (fun _ _ _ h => h) (.inl ⟨by kernel_rfl, fun W hS => ?_⟩) ⟨HDR.out, fun h => by cases h⟩ ?_
    · simp [execOp, Act.eval, Act.put, go_sem, conv_text (HP2.out.keep hS.1) Try.underlying22 Try.underlying5 Try.underlying9]
    refine wpAnyN_take false (i := 18) (v := .bool p) rfl (by kernel_rfl) (by kernel_rfl) (by kernel_rfl) (fun _ _ _ h => h) (.inl ⟨by kernel_rfl, fun W hS => ?_⟩) ⟨HDR.out, fun h => by cases h⟩ ?_
    · simp [execOp, Act.eval, Act.put, go_sem, F2.out]
    refine wpAnyN_take false (i := 19) (v := .int .u64 a) rfl (by kernel_rfl) (by kernel_rfl) (by kernel_rfl) (fun _ _ _ h => h) (.inl ⟨by kernel_rfl, fun W hS => ?_⟩) ⟨HDR.out, fun h => by cases h⟩ ?_
    · simp [execOp, Act.eval, Act.put, go_sem]
    refine wpAnyN_take false (i := 20) (v := .int .u64 b) rfl (by kernel_rfl) (by kernel_rfl) (by kernel_rfl) (fun _ _ _ h => h) (.inl ⟨by kernel_rfl, fun W hS => ?_⟩) ⟨HDR.out, fun h => by cases h⟩ ?_
    · simp [execOp, Act.eval, Act.put, go_sem]
    refine wpAnyN_take false (i := 21) (v := .bool p) rfl (by kernel_rfl) (by kernel_rfl) (by kernel_rfl) (fun _ _ _ h => h) (.inl ⟨by kernel_rfl, fun W hS => ?_⟩) ⟨HDR.out, fun h => by cases h⟩ ?_
    · simp [execOp, Act.eval, Act.put, go_sem, F3.out]
    refine wpAnyN_take false (i := 22) (v := .bool true) rfl (by kernel_rfl) (by kernel_rfl) (by kernel_rfl) (fun _ _ _ h => h) (.inl ⟨by kernel_rfl, fun W hS => ?_⟩) ⟨HDR.out, fun h => by cases h⟩ ?_
    · simp [execOp, Act.eval, Act.put, go_sem]
    refine wpAnyN_take false (i := 23) (v := .bool true) rfl (by kernel_rfl) (by kernel_rfl) (by kernel_rfl) (fun _ _ _ h => h) (.inl ⟨by kernel_rfl, fun W hS => ?_⟩) ⟨HDR.out, fun h => by cases h⟩ ?_
    · simp [execOp, Act.eval, Act.put, go_sem]
    refine wpAnyN_take false (i := 24) (v := .bool true) rfl (by kernel_rfl) (by kernel_rfl) (by kernel_rfl) (fun _ _ _ h => h) (.inl ⟨by kernel_rfl, fun W hS => ?_⟩) ⟨HDR.out, fun h => by cases h⟩ ?_
    · simp [execOp, Act.eval, Act.put, go_sem]
    refine wpAnyN_step (i := 25) (by kernel_rfl) rfl (by kernel_rfl) ?_
    intro K' hK
    try simp only [Act.put]
    go_simp
    refine (HAW.out _).mono ?_
    rintro e w5 ⟨rfl, hb5⟩
    have H5 := Lib.hid (HDR.out.trans (hb5.mono HDR.out.size))
    clear hb5
    refine hK.out _ _ H5.out (fun h => absurd h (by decide)) ?_
    refine wpAnyN_take false (i := 26) (v := .bool true) rfl (by kernel_rfl) (by kernel_rfl) (by kernel_rfl) (fun _ _ _ h => h) (.inl ⟨by kernel_rfl, fun W hS => ?_⟩) ⟨H5.out, fun h => by cases h⟩ ?_
    · simp [execOp, Act.eval, go_sem]
    refine wpAnyN_take false (i := 27) (v := .bool true) rfl (by kernel_rfl) (by kernel_rfl) (by kernel_rfl) (fun _ _ _ h => h) (.inl ⟨by kernel_rfl, fun W hS => ?_⟩) ⟨H5.out, fun h => by cases h⟩ ?_
    · simp [execOp, Act.eval, Act.put, go_sem]
    refine wpAnyN_done (by kernel_rfl) ?_
    try simp only [Act.put]
    try go_simp
    go_wp2
    go_ret
    exact ⟨rfl, HB2.out.trans (H5.out.mono HB2.out.size)⟩
end Go.Proofs.Ytjcnkpghbmphfaa
