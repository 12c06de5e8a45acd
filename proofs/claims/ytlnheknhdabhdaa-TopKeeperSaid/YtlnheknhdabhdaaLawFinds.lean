/-
  RecordFinds walked.
  Conditions: the body reads as bytes; the place and the change are bytes.
-/
import Derived.Test.YtlnheknhdabhdaaLawSplits
set_option linter.unusedVariables false
namespace Go.Proofs.Ytlnheknhdabhdaa
open Go.RowKit

theorem sealT_get0 (xs : List Nat) : (sealT xs)[0]? = some xs.length := by simp [sealT]
theorem sealT_last (xs : List Nat) : (sealT xs)[xs.length + 1]? = some (crc (xs.length :: xs)) := by
  unfold sealT
  rw [List.getElem?_append_right (by simp)]
  simp
theorem sealT_take (xs : List Nat) : (sealT xs).take (xs.length + 1) = xs.length :: xs := by
  unfold sealT
  rw [List.take_append_of_le_length (by simp), List.take_of_length_le (by simp)]
theorem set_same {l : List Nat} {k x : Nat} (h : l[k]? = some x) : l.set k x = l := by
  apply List.ext_getElem?
  intro j
  rw [List.getElem?_set]
  split
  · rename_i e
    subst e
    rw [if_pos (List.getElem?_eq_some_iff.1 h).1, h]
  · rfl
theorem xor_self_eq {x y : Nat} (h : x ^^^ y = x) : y = 0 := by
  have e : x ^^^ y = x ^^^ 0 := by rw [h, Nat.xor_zero]
  exact xor_right e
/-- One byte of a record, but the first one, is another one. -/
theorem finds_sum {xs : List Nat} (hl : xs.length ≤ 120) (hx : ∀ x ∈ xs, x < 256) {k x y : Nat} (hk0 : 1 ≤ k) (hk1 : k ≤ xs.length + 1) (hg : (sealT xs)[k]? = some x) (hy : y < 256) :
    (crc (((sealT xs).set k (x ^^^ y)).take (xs.length + 1)) == ((sealT xs).set k (x ^^^ y)).getD (xs.length + 1) 0) = decide (y = 0) := by
  have hbx := sealT_bytes hl hx x (List.mem_of_getElem? hg)
  have hhead := head_bytes hl hx
  have hxy := xor_lt hbx hy
  rw [List.getD_eq_getElem?_getD]
  rcases Nat.lt_or_ge k (xs.length + 1) with h | h
  · have e1 : ((sealT xs).set k (x ^^^ y)).take (xs.length + 1) = (xs.length :: xs).set k (x ^^^ y) := by
      rw [List.take_set, sealT_take]
    have e2 : ((sealT xs).set k (x ^^^ y))[xs.length + 1]? = some (crc (xs.length :: xs)) := by
      rw [List.getElem?_set_ne (by omega), sealT_last]
    rw [e1, e2]
    have e3 : (xs.length :: xs)[k]? = some x := by
      rw [← sealT_take xs, List.getElem?_take, if_pos h]
      exact hg
    by_cases h0 : y = 0
    · subst h0
      rw [Nat.xor_zero, set_same e3]
      simp
    · rw [decide_eq_false h0]
      have : crc ((xs.length :: xs).set k (x ^^^ y)) ≠ crc (xs.length :: xs) := by
        intro e
        have e4 := crc_set hhead hxy (by simpa using h) e
        rw [e3] at e4
        exact h0 (xor_self_eq (Option.some.inj e4).symm)
      simpa using this
  · have hkk : k = xs.length + 1 := by omega
    subst hkk
    have e1 : ((sealT xs).set (xs.length + 1) (x ^^^ y)).take (xs.length + 1) = xs.length :: xs := by
      rw [List.take_set_of_le (Nat.le_refl _), sealT_take]
    have e2 : ((sealT xs).set (xs.length + 1) (x ^^^ y))[xs.length + 1]? = some (x ^^^ y) := by
      rw [List.getElem?_set_self]
      rw [sealT_length]
      omega
    rw [sealT_last] at hg
    have e3 := Option.some.inj hg
    rw [e1, e2, e3]
    by_cases h0 : y = 0
    · subst h0; simp
    · rw [decide_eq_false h0]
      have : x ≠ x ^^^ y := fun e => h0 (xor_self_eq e.symm)
      simpa using this
theorem finds_split {xs : List Nat} (hl0 : 1 ≤ xs.length) (hl : xs.length ≤ 120) (hx : ∀ x ∈ xs, x < 256) {k x y : Nat} (hk0 : 1 ≤ k) (hk1 : k ≤ xs.length + 1) (hg : (sealT xs)[k]? = some x) (hy : y < 256) :
    ∃ body, splitT ((sealT xs).set k (x ^^^ y)) 0 = [⟨0, xs.length + 2, decide (y = 0), body⟩] := by
  have hs := finds_sum hl hx hk0 hk1 hg hy
  have h0 : ((sealT xs).set k (x ^^^ y))[0]? = some xs.length := by rw [List.getElem?_set_ne (by omega), sealT_get0]
  have hlen : ((sealT xs).set k (x ^^^ y)).length = xs.length + 2 := by rw [List.length_set, sealT_length]
  generalize (sealT xs).set k (x ^^^ y) = ys at *
  have hf : firstT ys = (xs.length + 2, decide (y = 0)) := by
    cases ys with
    | nil => cases h0
    | cons n r =>
      have e : n = xs.length := by simpa using h0
      subst e
      rw [List.length_cons] at hlen
      rw [firstT_cons, if_neg (by omega), if_neg (by omega), hs]
  obtain ⟨len, ok, hf', h1, h2, h3, h4⟩ := rc_facts (bs := ys) (a := 0) (by omega)
  rw [List.drop_zero, hf] at hf'
  injection hf' with e1 e2
  subst e1 e2
  rw [h4, splitT_end (by omega)]
  exact ⟨_, rfl⟩

theorem Own.set {W : World} {base : Nat} {v : Value} {xs : List Nat} (h : Own W base v xs) {k y : Nat} (hk : k < xs.length) (hy : y < 256) :
    ∃ g c, v = .slice (some ⟨g, 0, none⟩) xs.length c ∧ base ≤ g ∧ (∀ x, xs[k]? = some x → W.cell? ⟨g, k, none⟩ = some (.int .u8 x)) ∧ W.frozen? ⟨g, k, none⟩ = false ∧ Own (W.setCell ⟨g, k, none⟩ (.int .u8 y)) base v (xs.set k y) := by
  obtain ⟨⟨h1, h2⟩, h3⟩ := h
  have hb : ∀ z ∈ xs.set k y, z < 256 := fun z hz => by
    rcases List.mem_or_eq_of_mem_set hz with h | h
    · exact h3 z h
    · omega
  rcases h2 with ⟨rfl, h0⟩ | ⟨g, cap, cur, rfl, hg, hh, hn, hc, hs, ht⟩
  · omega
  · have key : ∀ i, i < xs.length → cur[i]? = (bytesV xs)[i]? := fun i hi => by
      rw [← ht, List.getElem?_take, if_pos (by omega)]
      simp
    refine ⟨g, cap, rfl, hg, fun x hx => ?_, by simp [World.frozen?, hh], ⟨by simp [bytesV_length], .inr ⟨g, cap, cur.setIfInBounds k (.int .u8 y), by rw [List.length_set], hg, heap_setCell_at _ _ _ _ _ _ _ hh, by rw [List.length_set]; exact hn, hc, by simpa using hs, ?_⟩⟩, hb⟩
    · rw [cell_of_row W g k _ _ (0, 0) hh, key k hk]
      simp [bytesV, hx]
    · rw [List.length_set]
      apply List.ext_getElem?
      intro j
      rw [List.getElem?_take]
      by_cases hj : j < xs.length
      · rw [if_pos (by omega)]
        simp only [Array.getElem?_toList]
        rw [arr_set (by omega)]
        by_cases e : j = k
        · subst e
          rw [if_pos rfl]
          simp [bytesV, hj]
        · rw [if_neg e, key j hj]
          simp [bytesV, List.getElem?_set_ne (Ne.symm e)]
      · rw [if_neg (by omega)]
        simp [bytesV, hj]

set_option maxRecDepth 100000 in
set_option maxHeartbeats 2000000 in
theorem finds_law (xs : List Nat) (t y : Nat) (v : Value) (w : World) (hv : BytesAt w v xs) (ht : t < 256) (hy : y < 256) :
    Calls Try.prog 6 #[v, .int .u8 t, .int .u8 y] w (RetB (.bool true) w) := by
  have HAW := Lib.hid (fun W => awake_any W)
  have HALL := Lib.hid (bytes_all hv)
  by_cases hl : xs.length < 1 ∨ 120 < xs.length
  · have HSB := Lib.hid (seal_bad v xs w hv hl)
    obtain ⟨A, c, rfl, _⟩ := hv
    generalize xs.length = n at *
    rcases hl with hl | hl
    · have y1 : (n : Int) < 1 := by omega
      have y1' : decide ((n : Int) < 1) = true := decide_eq_true y1
      clear hl
      go_enter Try.func6, Try.ntmps6
      go_wp2_with (first | (go_at_call 14; refine HSB.out.mono ?_; rintro e w' ⟨rfl, rfl⟩) | (go_at_call 8; refine (HAW.out _).mono ?_; rintro e w' ⟨rfl, hb⟩))
      go_ret
      exact ⟨rfl, hb⟩
    · have y1 : ¬ (n : Int) < 1 := by omega
      have y1' : decide ((n : Int) < 1) = false := decide_eq_false y1
      have y2 : (120 : Int) < (n : Int) := by omega
      have y2' : decide ((120 : Int) < (n : Int)) = true := decide_eq_true y2
      clear hl
      go_enter Try.func6, Try.ntmps6
      go_wp2_with (first | (go_at_call 14; refine HSB.out.mono ?_; rintro e w' ⟨rfl, rfl⟩) | (go_at_call 8; refine (HAW.out _).mono ?_; rintro e w' ⟨rfl, hb⟩))
      go_ret
      exact ⟨rfl, hb⟩
  · have HSG := Lib.hid (seal_ok v xs w hv (by omega) (by omega))
    obtain ⟨k, hk⟩ : ∃ x, 1 + t % (xs.length + 1) = x := ⟨_, rfl⟩
    have hmod := Nat.mod_lt t (show 0 < xs.length + 1 by omega)
    have hk0 : 1 ≤ k := by omega
    have hk1 : k ≤ xs.length + 1 := by omega
    have hsl := sealT_length xs
    obtain ⟨x, hx⟩ := ex_at (xs := sealT xs) (k := k) (by omega)
    have hxb := sealT_bytes (by omega) HALL.out x (List.mem_of_getElem? hx)
    obtain ⟨body, hsp⟩ := finds_split (by omega) (by omega) HALL.out hk0 hk1 hx hy
    have HSP := Lib.hid hsp
    have HX := Lib.hid hx
    have HSL := Lib.hid hsl
    have hxy := xor_lt hxb hy
    have hbits := xor_u8 hxb hy
    have hyq : ((y : Int) == 0) = decide (y = 0) := by
      by_cases h0 : y = 0
      · subst h0; simp
      · have h0' : (y : Int) ≠ 0 := by omega
        rw [decide_eq_false h0]; simpa using h0'
    obtain ⟨A, c, rfl, k1, _⟩ := hv
    generalize x ^^^ y = z at *
    generalize decide (y = 0) = p at *
    generalize hn : xs.length = n at *
    have hn2 : (n : Int) + 2 = ((n + 2 : Nat) : Int) := by omega
    have hn1 : ((n + 2 : Nat) : Int) - 1 = ((n + 1 : Nat) : Int) := by omega
    have hne : ((n + 1 : Nat) : Int) ≠ 0 := by omega
    have hne' : (((n + 1 : Nat) : Int) == 0) = false := by simpa using hne
    have hrem : (t : Int).tmod ((n + 1 : Nat) : Int) = ((t % (n + 1) : Nat) : Int) := by rw [Int.tmod_eq_emod_of_nonneg (by omega)]; omega
    have hkz : 1 + ((t % (n + 1) : Nat) : Int) = (k : Int) := by omega
    have hk0z : (0 : Int) ≤ (k : Int) := by omega
    have hkl : (k : Int) < ((n + 2 : Nat) : Int) := by omega
    have HKL := Lib.hid (show k < n + 2 by omega)
    have HN2 := Lib.hid (show n + 2 ≤ 122 by omega)
    have htz : wrap64 (t : Int) = (t : Int) := wrap64_small (by omega) (by omega)
    generalize t % (n + 1) = m at *
    generalize n + 1 = n1 at *
    generalize n + 2 = n2 at *
    clear hk hmod hk0 hk1 hsl hx hsp hl hxb
    go_enter Try.func6, Try.ntmps6
    go_wp2_with fail
    refine HSG.out.mono ?_
    rintro e w1 ⟨v1, rfl, hown1, hb1⟩
    have HV1 := Lib.hid hown1.bytes
    have HB1 := Lib.hid hb1
    have hv1 := hown1.bytes
    obtain ⟨A1, c1, rfl, j1, _⟩ := hv1
    have HSL2 := Lib.hid HSL.out
    rw [HSL.out] at HV1 j1 ⊢
    clear hown1 hb1 HSG
    have HE := Lib.hid (empty_own w1 w1.heap.size (Nat.le_refl _))
    have HB1a := Lib.hid (show Below w1.heap.size w1 (w1.alloc (.cells #[] 5)) from (Below.refl _ _).alloc (Nat.le_refl _) _)
    have HV1a := Lib.hid (HV1.out.keep HB1a.out)
    go_wp2_with (at_builtin; refine wpList_append_bytes rfl _ _ 22 rfl w1.heap.size Try.underlying22 Try.infoByte _ [] rfl HE.out _ (sealT xs) rfl HV1a.out (by have := HN2.out; have := HSL.out; simp; omega) (by simp) ?_)
    intro v2 w2 hown2 hb2
    have HB2 := Lib.hid (HB1a.out.trans hb2)
    obtain ⟨g, c2, rfl, hgb, hcell, hfz, hset⟩ := Own.set (show Own w2 w1.heap.size v2 (sealT xs) from hown2) (k := k) (y := z) (by rw [HSL2.out]; exact HKL.out) hxy
    have hcx := hcell x HX.out
    have hslo : (sealT xs).length = n2 := HSL2.out
    have HBS := Lib.hid (show Below w1.heap.size w1 (w2.setCell ⟨g, k, none⟩ (.int .u8 z)) from HB2.out.setCell hgb _)
    have HOS := Lib.hid (show BytesAt (w2.setCell ⟨g, k, none⟩ (.int .u8 z)) (.slice (some ⟨g, 0, none⟩) n2 c2) ((sealT xs).set k z) by rw [← hslo]; exact hset.bytes)
    rw [hslo] at *
    clear hown2 hb2 hcell hset HE HV1a HB1a hslo
    go_upto_region 9 with fail
    generalize w2.setCell ⟨g, k, none⟩ (.int .u8 z) = w3 at HBS HOS ⊢
    have HSPL := Lib.hid (split_any _ _ w3 HOS.out (by rw [List.length_set, HSL2.out]; have := HN2.out; omega))
    rw [HSP.out] at HSPL
    clear hfz hcx
    go_wp2_with fail
    refine HSPL.out.mono ?_
    rintro e w4 ⟨v4, l, rfl, hm, hra, hb4⟩
    have HB4 := Lib.hid (over2 HB1.out (HBS.out.trans (hb4.mono HBS.out.size)))
    have hll : l.length = 1 := by rw [← List.length_map (f := Prod.fst), hm]; rfl
    obtain ⟨u, hu⟩ := fst_at hm (i := 0) rfl
    obtain ⟨A4, c4, rfl, q1, q2, q3, _⟩ := hra
    obtain ⟨g4, rfl, hg4, hc4⟩ := q3 (by omega)
    obtain ⟨_, _, _, d3⟩ := hc4 0 _ hu
    simp only [Nat.zero_mul, Nat.zero_add] at d3
    rw [hll] at *
    clear hm hb4 hc4 hu q3 hll
    unfold errV at d3
    have hf : ((if p = true then (0 : Int) else 3) == 0) = p := by cases p <;> rfl
    have hpp : (p == p) = true := by cases p <;> rfl
    generalize (if p = true then (0 : Int) else 3) = ev at *
    go_wp2_with (go_at_call 8; refine (HAW.out _).mono ?_; rintro e w' ⟨rfl, hb⟩)
    go_ret
    exact ⟨rfl, over2 HB4.out hb⟩
end Go.Proofs.Ytlnheknhdabhdaa
