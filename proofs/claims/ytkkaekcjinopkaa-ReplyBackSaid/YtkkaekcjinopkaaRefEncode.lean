/-
  The document's Encode.
  Conditions: the reply is right, its numbers are of their kind.
-/
import Derived.Test.YtkkaekcjinopkaaCheck
import Derived.Test.YtkkaekcjinopkaaRefNum
set_option linter.unusedVariables false
namespace Go.Proofs.Ytkkaekcjinopkaa
open Go.RowKit

theorem byte_lit (W : World) (x : Nat) (h : x < 256) : BytesAt (W.alloc (.cells #[.int .u8 x] 5)) (.slice (some ⟨W.heap.size, 0, none⟩) 1 1) [x] :=
  (lit_own W [x] (by simpa using h) (by simp) 0 (Nat.zero_le _)).bytes
theorem pN_enc (p : Bool) : enc (pN p) = [pN p] := enc_small (by have := pN_le p; omega)
theorem encs_le {l : List Nat} (h : ∀ n ∈ l, n < 18446744073709551616) {k : Nat} (hk : l.length ≤ 20) : (encs (l.take k)).length ≤ 200 := by
  have h1 := encs_length (l.take k) (fun n hn => h n (List.mem_of_mem_take hn))
  have h2 : (l.take k).length ≤ l.length := by rw [List.length_take]; exact Nat.min_le_right _ _
  omega

set_option maxRecDepth 100000 in
set_option maxHeartbeats 4000000 in
theorem refEncode_any (r : Rep) (u : Value) (w : World) (hu : IntsAt w u r.ns) (hf : FitR r) : Calls Try.prog 12 #[.agg (repA r u)] w (RetO w.heap.size (encR r) w) := by
  have hb1 := below_new (W := w) (.cells (repA r u) 25)
  have ha1 := RepAt.new w r u
  obtain ⟨c0, c1, c2, c3⟩ := ha1.cells
  have HA := Lib.hid ha1
  have HB := Lib.hid hb1
  have HU := Lib.hid (hu.keep hb1)
  have hrr := rightB_iff.1 hf.right
  have HPO := Lib.hid hrr.pos
  have HS := Lib.hid hf.small
  have HSH := Lib.hid hrr.short
  have HSMN := Lib.hid (fun x (hx : x ∈ r.ns.map Int.toNat) => numsR_small hf x (by unfold numsR; simp only [List.mem_cons]; exact .inr (.inr (.inr (.inr hx)))))
  have hx0 := hrr.e0
  have hx1 := hrr.e1
  have hm0 := hrr.m0
  have hm1 := hrr.m1
  have HEN := Lib.hid (show encR r = enc r.e.toNat ++ [pN r.p] ++ enc r.m.toNat ++ [r.ns.length] ++ encs (r.ns.map Int.toNat) by
    unfold encR numsR
    rw [encs_cons, encs_cons, encs_cons, encs_cons, pN_enc, enc_small (n := r.ns.length) (by have := hrr.short; omega)]
    simp)
  generalize encR r = EN at *
  clear ha1 hb1 hu hf hrr
  go_enter Try.func12, Try.ntmps12
  go_upto_region 1 with fail
  generalize hw1 : w.alloc (.cells (repA r u) 25) = w1 at *
  have hsz1 := HB.out.size
  obtain ⟨A, c, rfl, hlen, hat⟩ := HU.out
  have HAT := Lib.hid hat
  obtain ⟨e, p, m, ns⟩ := r
  simp only at *
  obtain ⟨E, rfl⟩ : ∃ E : Nat, e = (E : Int) := ⟨e.toNat, by omega⟩
  obtain ⟨M, rfl⟩ : ∃ M : Nat, m = (M : Int) := ⟨m.toNat, by omega⟩
  have hE64 : E < 18446744073709551616 := by omega
  have hM64 : M < 18446744073709551616 := by omega
  have hE : IntKind.u64.wrap (E : Int) = (E : Int) := by rw [IntKind.wrap_u64]; omega
  have hM : IntKind.u64.wrap (M : Int) = (M : Int) := by rw [IntKind.wrap_u64]; omega
  rw [Int.toNat_natCast, Int.toNat_natCast] at HEN
  have HLE := Lib.hid (enc_ten hE64)
  have HLM := Lib.hid (enc_ten hM64)
  generalize hnl : ns.length = n at *
  have HNL := Lib.hid hnl
  have HN256 := Lib.hid (show n < 256 by have := HSH.out; omega)
  have hN : IntKind.u8.wrap (n : Int) = (n : Int) := by rw [IntKind.wrap_u8]; have := HSH.out; omega
  have HN1 := Lib.hid (fun W => refNum_any E E W (Nat.le_refl _) hE64)
  have HN2 := Lib.hid (fun W => refNum_any M M W (Nat.le_refl _) hM64)
  clear hat hnl hx0 hx1 hm0 hm1 hw1 hM64 hE64
  go_wp2_with fail
  refine (HN1.out _).mono ?_
  rintro e w2 ⟨v2, rfl, ho2, hb2⟩
  clear c0 c1 c2 c3
  obtain ⟨c0, c1, c2, c3⟩ := (HA.out.keep hb2).cells
  have HB2 := Lib.hid hb2
  have HO2 := Lib.hid ho2
  have hs2 := hb2.size
  clear hb2 ho2 HN1
  cases p with
  | true =>
    have HY3 := Lib.hid (show BytesAt (w2.alloc (.cells #[.int .u8 1] 5)) (.slice (some ⟨w2.heap.size, 0, none⟩) 1 1) [1] from byte_lit w2 1 (by decide))
    go_wp2_with (at_builtin; refine wpList_append_bytes rfl _ _ 27 rfl w1.heap.size Try.underlying27 Try.infoByte _ _ rfl (HO2.out.alloc _) _ [1] rfl HY3.out ?hlx ?hbx ?_)
    case hlx => have := HLE.out; simp; omega
    case hbx => simp; omega
    intro v3 w3 hown3 hb3
    have HO3 := Lib.hid (show Own w3 w1.heap.size v3 (enc E ++ [pN true]) from hown3)
    have HB3 := Lib.hid ((HB2.out.alloc hs2 _).trans hb3)
    obtain ⟨c0, c1, c2, c3⟩ := (HA.out.keep HB3.out).cells
    have hs3 := HB3.out.size
    clear hown3 hb3 HY3
    go_wp2_with fail
    refine (HN2.out _).mono ?_
    rintro e w4 ⟨v4, rfl, ho4, hb4⟩
    have HY4 := Lib.hid ho4.bytes
    have HO4 := Lib.hid (HO3.out.keep hb4)
    have HB4 := Lib.hid (HB3.out.trans (hb4.mono hs3))
    have hs4 := HB4.out.size
    clear ho4 hb4 c0 c1 c2 c3
    go_wp2_with (at_builtin; refine wpList_append_bytes rfl _ _ 27 rfl w1.heap.size Try.underlying27 Try.infoByte _ _ rfl HO4.out _ (enc M) rfl HY4.out ?hlx ?hbx ?_)
    case hlx => have := HLE.out; have := HLM.out; simp; omega
    case hbx => exact hs4
    intro v5 w5 hown5 hb5
    have HO5 := Lib.hid hown5
    have HB5 := Lib.hid (HB4.out.trans hb5)
    obtain ⟨c0, c1, c2, c3⟩ := (HA.out.keep HB5.out).cells
    have hs5 := HB5.out.size
    have HY6 := Lib.hid (byte_lit w5 n HN256.out)
    clear hown5 hb5 HY4
    go_wp2_with (at_builtin; refine wpList_append_bytes rfl _ _ 27 rfl w1.heap.size Try.underlying27 Try.infoByte _ _ rfl (HO5.out.alloc _) _ [n] rfl HY6.out ?hlx ?hbx ?_)
    case hlx => have := HLE.out; have := HLM.out; simp; omega
    case hbx => omega
    intro v6 w6 hown6 hb6
    have HO6 := Lib.hid (show Own w6 w1.heap.size v6 (enc E ++ [pN true] ++ enc M ++ [n]) by simpa using hown6)
    have HB6 := Lib.hid ((HB5.out.alloc hs5 _).trans hb6)
    clear hown6 hb6 HY6 c0 c1 c2 c3
    have HP := Lib.hid (show (enc E ++ [pN true] ++ enc M ++ [n]).length ≤ 40 by have := HLE.out; have := HLM.out; simp; omega)
    generalize enc E ++ [pN true] ++ enc M ++ [n] = PX at *
    go_wp2_with fail
    go_loopg [3, 4] n (fun g s3 s4 wr => ∃ k : Nat, k ≤ n ∧ g = n - k ∧ s4 = .int .i64 k ∧ Own wr w1.heap.size s3 (PX ++ encs ((ns.map Int.toNat).take k)) ∧ Below w1.heap.size w1 wr)
    case atStart => exact ⟨0, Nat.zero_le _, rfl, rfl, by simpa [encs] using HO6.out, HB6.out⟩
    case round =>
      obtain ⟨k, hk, hg, rfl, hown, hbr⟩ := hrel
      have HG := Lib.hid hg
      have HO := Lib.hid hown
      have HBR := Lib.hid hbr
      have hsz := hbr.size
      obtain ⟨_, _, _, c3⟩ := (HA.out.keep hbr).cells
      clear hg hown hbr
      by_cases hlt : k < n
      · have hltz : (k : Int) < (n : Int) := by omega
        obtain ⟨b, off, rfl, hbl, hcell⟩ := HAT.out (by omega)
        obtain ⟨y, hy⟩ := exI_at (xs := ns) (k := k) (by have := HNL.out; omega)
        have hmem := List.mem_of_getElem? hy
        have h0 := HPO.out y hmem
        have h9 := HS.out y hmem
        obtain ⟨Y, rfl⟩ : ∃ Y : Nat, y = (Y : Int) := ⟨y.toNat, by omega⟩
        have hck := (HBR.out.cell (p := ⟨b, off + k, none⟩) hbl).trans (hcell k _ hy)
        have hyw : IntKind.u64.wrap (Y : Int) = (Y : Int) := by rw [IntKind.wrap_u64]; omega
        have HT := Lib.hid (encs_take (l := ns.map Int.toNat) (k := k) (n := Y) (by rw [List.getElem?_map, hy]; rfl))
        have HLN := Lib.hid (encs_le (l := ns.map Int.toNat) (fun x hx => HSMN.out x hx) (k := k) (by rw [List.length_map]; have := HSH.out; have := HNL.out; omega))
        have hY64 : Y < 18446744073709551616 := by omega
        have HLY := Lib.hid (enc_ten hY64)
        have HNY := Lib.hid (fun W => refNum_any Y Y W (Nat.le_refl _) hY64)
        clear hcell hy hmem h0 h9 hY64
        go_wp2_with fail
        refine (HNY.out _).mono ?_
        rintro e w7 ⟨v7, rfl, ho7, hb7⟩
        have HY7 := Lib.hid ho7.bytes
        have HO7 := Lib.hid (HO.out.keep hb7)
        have HB7 := Lib.hid (HBR.out.trans (hb7.mono hsz))
        have hs7 := HB7.out.size
        clear ho7 hb7 c3 hck
        go_wp2_with (at_builtin; refine wpList_append_bytes rfl _ _ 27 rfl w1.heap.size Try.underlying27 Try.infoByte _ _ rfl HO7.out _ (enc Y) rfl HY7.out ?hlx ?hbx ?_)
        case hlx => have := HP.out; have := HLN.out; have := HLY.out; simp only [List.length_append]; omega
        case hbx => exact hs7
        intro v8 w8 hown8 hb8
        have HO8 := Lib.hid hown8
        have HB8 := Lib.hid (HB7.out.trans hb8)
        clear hown8 hb8
        go_wp2_with fail
        go_roundg (n - (k + 1))
        case measure => have := HG.out; omega
        case rel =>
          refine ⟨k + 1, by omega, rfl, by go_num, ?_, HB8.out⟩
          have h := HO8.out
          rw [HT.out]
          first | exact h | (rw [← List.append_assoc]; exact h)
      · have hltz : ¬ (k : Int) < (n : Int) := by omega
        have HF := Lib.hid (show Own wr w1.heap.size u3 EN by
          have h := HO.out
          rw [List.take_of_length_le (by rw [List.length_map]; have := HNL.out; omega), ← HEN.out] at h
          exact h)
        go_wp2_with fail
        go_ret
        exact ⟨_, rfl, HF.out.weaken hsz1, HB.out.trans (HBR.out.mono hsz1)⟩
  | false =>
    have HY3 := Lib.hid (show BytesAt (w2.alloc (.cells #[.int .u8 0] 5)) (.slice (some ⟨w2.heap.size, 0, none⟩) 1 1) [0] from byte_lit w2 0 (by decide))
    go_wp2_with (at_builtin; refine wpList_append_bytes rfl _ _ 27 rfl w1.heap.size Try.underlying27 Try.infoByte _ _ rfl (HO2.out.alloc _) _ [0] rfl HY3.out ?hlx ?hbx ?_)
    case hlx => have := HLE.out; simp; omega
    case hbx => simp; omega
    intro v3 w3 hown3 hb3
    have HO3 := Lib.hid (show Own w3 w1.heap.size v3 (enc E ++ [pN false]) from hown3)
    have HB3 := Lib.hid ((HB2.out.alloc hs2 _).trans hb3)
    obtain ⟨c0, c1, c2, c3⟩ := (HA.out.keep HB3.out).cells
    have hs3 := HB3.out.size
    clear hown3 hb3 HY3
    go_wp2_with fail
    refine (HN2.out _).mono ?_
    rintro e w4 ⟨v4, rfl, ho4, hb4⟩
    have HY4 := Lib.hid ho4.bytes
    have HO4 := Lib.hid (HO3.out.keep hb4)
    have HB4 := Lib.hid (HB3.out.trans (hb4.mono hs3))
    have hs4 := HB4.out.size
    clear ho4 hb4 c0 c1 c2 c3
    go_wp2_with (at_builtin; refine wpList_append_bytes rfl _ _ 27 rfl w1.heap.size Try.underlying27 Try.infoByte _ _ rfl HO4.out _ (enc M) rfl HY4.out ?hlx ?hbx ?_)
    case hlx => have := HLE.out; have := HLM.out; simp; omega
    case hbx => exact hs4
    intro v5 w5 hown5 hb5
    have HO5 := Lib.hid hown5
    have HB5 := Lib.hid (HB4.out.trans hb5)
    obtain ⟨c0, c1, c2, c3⟩ := (HA.out.keep HB5.out).cells
    have hs5 := HB5.out.size
    have HY6 := Lib.hid (byte_lit w5 n HN256.out)
    clear hown5 hb5 HY4
    go_wp2_with (at_builtin; refine wpList_append_bytes rfl _ _ 27 rfl w1.heap.size Try.underlying27 Try.infoByte _ _ rfl (HO5.out.alloc _) _ [n] rfl HY6.out ?hlx ?hbx ?_)
    case hlx => have := HLE.out; have := HLM.out; simp; omega
    case hbx => omega
    intro v6 w6 hown6 hb6
    have HO6 := Lib.hid (show Own w6 w1.heap.size v6 (enc E ++ [pN false] ++ enc M ++ [n]) by simpa using hown6)
    have HB6 := Lib.hid ((HB5.out.alloc hs5 _).trans hb6)
    clear hown6 hb6 HY6 c0 c1 c2 c3
    have HP := Lib.hid (show (enc E ++ [pN false] ++ enc M ++ [n]).length ≤ 40 by have := HLE.out; have := HLM.out; simp; omega)
    generalize enc E ++ [pN false] ++ enc M ++ [n] = PX at *
    go_wp2_with fail
    go_loopg [3, 4] n (fun g s3 s4 wr => ∃ k : Nat, k ≤ n ∧ g = n - k ∧ s4 = .int .i64 k ∧ Own wr w1.heap.size s3 (PX ++ encs ((ns.map Int.toNat).take k)) ∧ Below w1.heap.size w1 wr)
    case atStart => exact ⟨0, Nat.zero_le _, rfl, rfl, by simpa [encs] using HO6.out, HB6.out⟩
    case round =>
      obtain ⟨k, hk, hg, rfl, hown, hbr⟩ := hrel
      have HG := Lib.hid hg
      have HO := Lib.hid hown
      have HBR := Lib.hid hbr
      have hsz := hbr.size
      obtain ⟨_, _, _, c3⟩ := (HA.out.keep hbr).cells
      clear hg hown hbr
      by_cases hlt : k < n
      · have hltz : (k : Int) < (n : Int) := by omega
        obtain ⟨b, off, rfl, hbl, hcell⟩ := HAT.out (by omega)
        obtain ⟨y, hy⟩ := exI_at (xs := ns) (k := k) (by have := HNL.out; omega)
        have hmem := List.mem_of_getElem? hy
        have h0 := HPO.out y hmem
        have h9 := HS.out y hmem
        obtain ⟨Y, rfl⟩ : ∃ Y : Nat, y = (Y : Int) := ⟨y.toNat, by omega⟩
        have hck := (HBR.out.cell (p := ⟨b, off + k, none⟩) hbl).trans (hcell k _ hy)
        have hyw : IntKind.u64.wrap (Y : Int) = (Y : Int) := by rw [IntKind.wrap_u64]; omega
        have HT := Lib.hid (encs_take (l := ns.map Int.toNat) (k := k) (n := Y) (by rw [List.getElem?_map, hy]; rfl))
        have HLN := Lib.hid (encs_le (l := ns.map Int.toNat) (fun x hx => HSMN.out x hx) (k := k) (by rw [List.length_map]; have := HSH.out; have := HNL.out; omega))
        have hY64 : Y < 18446744073709551616 := by omega
        have HLY := Lib.hid (enc_ten hY64)
        have HNY := Lib.hid (fun W => refNum_any Y Y W (Nat.le_refl _) hY64)
        clear hcell hy hmem h0 h9 hY64
        go_wp2_with fail
        refine (HNY.out _).mono ?_
        rintro e w7 ⟨v7, rfl, ho7, hb7⟩
        have HY7 := Lib.hid ho7.bytes
        have HO7 := Lib.hid (HO.out.keep hb7)
        have HB7 := Lib.hid (HBR.out.trans (hb7.mono hsz))
        have hs7 := HB7.out.size
        clear ho7 hb7 c3 hck
        go_wp2_with (at_builtin; refine wpList_append_bytes rfl _ _ 27 rfl w1.heap.size Try.underlying27 Try.infoByte _ _ rfl HO7.out _ (enc Y) rfl HY7.out ?hlx ?hbx ?_)
        case hlx => have := HP.out; have := HLN.out; have := HLY.out; simp only [List.length_append]; omega
        case hbx => exact hs7
        intro v8 w8 hown8 hb8
        have HO8 := Lib.hid hown8
        have HB8 := Lib.hid (HB7.out.trans hb8)
        clear hown8 hb8
        go_wp2_with fail
        go_roundg (n - (k + 1))
        case measure => have := HG.out; omega
        case rel =>
          refine ⟨k + 1, by omega, rfl, by go_num, ?_, HB8.out⟩
          have h := HO8.out
          rw [HT.out]
          first | exact h | (rw [← List.append_assoc]; exact h)
      · have hltz : ¬ (k : Int) < (n : Int) := by omega
        have HF := Lib.hid (show Own wr w1.heap.size u3 EN by
          have h := HO.out
          rw [List.take_of_length_le (by rw [List.length_map]; have := HNL.out; omega), ← HEN.out] at h
          exact h)
        go_wp2_with fail
        go_ret
        exact ⟨_, rfl, HF.out.weaken hsz1, HB.out.trans (HBR.out.mono hsz1)⟩
end Go.Proofs.Ytkkaekcjinopkaa
