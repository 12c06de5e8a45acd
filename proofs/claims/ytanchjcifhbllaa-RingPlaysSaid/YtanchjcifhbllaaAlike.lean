/-
  A ring that is, but for whole numbers, one that never rebased is told to be alike.
  Conditions: the numbers are small, and they fit.
-/
import Derived.Test.YtanchjcifhbllaaRefLead
import Derived.Test.YtanchjcifhbllaaActs
set_option linter.unusedVariables false
set_option linter.unusedSimpArgs false
namespace Go.Proofs.Ytanchjcifhbllaa
open Go.RowKit

theorem leadV_form (s : Rg) (m : Mb) : ∃ x y : Nat, leadV s m = .tuple #[.int .u64 x, .int .u64 y, .bool m.on] := by
  unfold leadV
  cases m.on with
  | false => exact ⟨0, 0, rfl⟩
  | true => exact ⟨_, _, rfl⟩
/-- Both tell the same of the j'th. -/
theorem lead_alike {C K : Nat} {S P : Rg} (h : Sim K S P) (hf : Fit C S) (hp : Okay P) {j : Nat} {m : Mb} (hj : S.l[j]? = some m) : leadO P m.id = leadV S m ∧ leadO S m.id = leadV S m := by
  have hpj : P.l[j]? = some (shift K m) := by rw [h.l, List.getElem?_map, hj]; rfl
  constructor
  · unfold leadO
    have e : (m.id : Int) = ((shift K m).id : Int) := rfl
    rw [e, findK_at hp.fit.srt hpj]
    simp only [memK_at hpj]
    unfold leadV
    have eo : (shift K m).on = m.on := rfl
    rw [eo]
    cases ho : m.on with
    | false => rfl
    | true =>
      obtain ⟨k1, k2⟩ := h.lead hf (List.mem_of_getElem? hj) ho
      rw [if_pos rfl, if_pos rfl, k1, k2]
  · unfold leadO
    rw [findK_at hf.srt hj]
    simp only [memK_at hj]

set_option maxRecDepth 100000 in
set_option maxHeartbeats 4000000 in
theorem alike_any (W : World) (rb : Nat) (mv v : Value) (P S : Rg) {C K : Nat} (h : RingAt W rb mv P) (hk : Okay P) (hr : RowR W v S.l) (hs : Small S) (hf : Fit C S) (hg : Sim K S P) : Calls Try.prog 13 #[.pointer (some ⟨rb, 0, none⟩), refV v S] W (RetB (.bool true) W) := by
  have HR := Lib.hid h
  have HK := Lib.hid hk
  have HROW := Lib.hid (fun (w' : World) (hb : Below W.heap.size W w') => hr.below hb)
  have hlen := hs.len
  have HLEN : Hid (P.l.length = S.l.length) := by show _ = _; rw [hg.l, List.length_map]
  have HAL := Lib.hid (fun (j : Nat) (m : Mb) (hj : S.l[j]? = some m) => lead_alike hg hf hk hj)
  have HPL := Lib.hid (fun (j : Nat) (m : Mb) (hj : S.l[j]? = some m) => show P.l[j]? = some (shift K m) by rw [hg.l, List.getElem?_map, hj]; rfl)
  have HLS := Lib.hid (fun (w' : World) (id : Int) (hb : Below W.heap.size W w') => refLead_any w' v S id (hr.below hb) hs hf)
  obtain ⟨A, c, rfl, hat⟩ := hr.lies
  obtain ⟨n, hn⟩ : ∃ n, S.l.length = n := ⟨_, rfl⟩
  have HN := Lib.hid hn
  have HAT := Lib.hid hat
  rw [hn] at hlen HROW HLEN HLS ⊢
  obtain ⟨N, hN⟩ : ∃ N, W.heap.size = N := ⟨_, rfl⟩
  obtain ⟨w1, hw1⟩ : ∃ w1, W.alloc (.cells #[.slice A n c, .int .i64 S.num, .int .i64 S.den] 30) = w1 := ⟨_, rfl⟩
  have HN1 : Hid (w1.heap[N]? = some (.cells #[.slice A n c, .int .i64 S.num, .int .i64 S.den] 30 (0, 0))) := by rw [← hw1]; exact alloc_block W _ hN
  have HB1 : Hid (Below W.heap.size W w1) := by rw [← hw1]; exact (Below.refl _ W).alloc (Nat.le_refl _) _
  have HME := Lib.hid (members_any w1 rb mv P (HR.out.below HB1.out) HK.out)
  unfold refV at *
  clear h hk hr hs hf hg hat hn
  go_enter Try.func13, Try.ntmps13
  go_wp2_with fail
  clear hw1 hN
  refine HME.out.mono ?_
  rintro e w5 ⟨v5, rfl, ht, hb⟩
  have HB5 := Lib.hid (HB1.out.trans (hb.mono HB1.out.size))
  have HN5 := Lib.hid (keep_block HN1.out hb)
  obtain ⟨bt, hbt, hbt1, hbt2, hbt3⟩ := ht
  rw [HLEN.out] at hbt
  subst hbt
  have HTC := Lib.hid hbt3
  have HTL := Lib.hid hbt2
  obtain ⟨r0, r1, r2, _⟩ := three_heads HN5.out
  clear hb hbt1 hbt2 hbt3
  go_wp2_with fail
  clear r0 r1 r2
  go_loopg [6] n (fun gg si wr => ∃ i : Nat, i ≤ n ∧ gg = n - i ∧ si = .int .i64 i ∧ Below w5.heap.size w5 wr)
  case atStart => exact ⟨0, Nat.zero_le _, by omega, rfl, Below.refl _ _⟩
  case round =>
    obtain ⟨i, hi, hg, rfl, hbw⟩ := hrel
    have HB6 := Lib.hid hbw
    have HG := Lib.hid hg
    clear hbw hg
    have hi0 : (0 : Int) ≤ (i : Int) := by omega
    by_cases hlt : i < n
    · have hltz : (i : Int) < (n : Int) := by omega
      obtain ⟨m, hm⟩ := ex_at (xs := S.l) (k := i) (by have := HN.out; omega)
      obtain ⟨g, hA, hgl, hrm⟩ := HAT.out i m hm
      subst hA
      have HBW := Lib.hid (HB5.out.trans (HB6.out.mono HB5.out.size))
      obtain ⟨a0, a1, a2, a3⟩ := hrm.keep (HBW.out.block g hgl)
      obtain ⟨z0, z1, z2⟩ := HTC.out i (shift K m) (HPL.out i m hm)
      have e6 := HB6.out.block bt HTL.out
      have t0 := (cell_same e6 _).trans z0
      have t1 := (cell_same e6 _).trans z1
      have t2 := (cell_same e6 _).trans z2
      obtain ⟨l1, l2⟩ := HAL.out i m hm
      obtain ⟨x, y, hxy⟩ := leadV_form S m
      rw [hxy] at l1 l2
      obtain ⟨r0, r1, r2, _⟩ := three_heads (keep_block HN5.out HB6.out)
      have HNR := Lib.hid (keep_block HN5.out HB6.out)
      obtain ⟨m1, m2, m3, m4⟩ := m
      obtain ⟨N7, hN7⟩ : ∃ N7, wr.heap.size = N7 := ⟨_, rfl⟩
      obtain ⟨w7, hw7⟩ : ∃ w7, wr.alloc (.cells #[.int .i64 m1, .int .i64 m2, .int .i64 m3, .bool m4] 71) = w7 := ⟨_, rfl⟩
      have hb7 : Below wr.heap.size wr w7 := by rw [← hw7]; exact (Below.refl _ wr).alloc (Nat.le_refl _) _
      have HM7 : Hid (w7.heap[N7]? = some (.cells #[.int .i64 m1, .int .i64 m2, .int .i64 m3, .bool m4] 71 (0, 0))) := by rw [← hw7]; exact alloc_block wr _ hN7
      have HB67 := Lib.hid hb7
      have HB7 := Lib.hid (HBW.out.trans (hb7.mono HBW.out.size))
      have HLP := Lib.hid (lead_any w7 rb mv P (m1 : Int) (HR.out.below HB7.out) HK.out)
      have HLQ := Lib.hid (fun (w' : World) (hb : Below W.heap.size W w') => HLS.out w' (m1 : Int) hb)
      simp only at a0 a1 a2 a3 l1 l2
      rw [l1] at HLP
      rw [l2] at HLQ
      have t0 : wr.cell? ⟨bt, i * 3, none⟩ = some (.int .i64 m1) := t0
      have t1 : wr.cell? ⟨bt, i * 3 + 1, none⟩ = some (.int .i64 m2) := t1
      have t2 : wr.cell? ⟨bt, i * 3 + 2, none⟩ = some (.bool m4) := t2
      have HT7 : Hid (∀ w', Below wr.heap.size wr w' → w'.cell? ⟨bt, i * 3, none⟩ = some (.int .i64 m1) ∧ w'.cell? ⟨bt, i * 3 + 1, none⟩ = some (.int .i64 m2) ∧ w'.cell? ⟨bt, i * 3 + 2, none⟩ = some (.bool m4)) := fun w' hb => by
        have hl : bt < wr.heap.size := Nat.lt_of_lt_of_le HTL.out HB6.out.size
        exact ⟨(hb.cell (p := ⟨bt, i * 3, none⟩) hl).trans t0, (hb.cell (p := ⟨bt, i * 3 + 1, none⟩) hl).trans t1, (hb.cell (p := ⟨bt, i * 3 + 2, none⟩) hl).trans t2⟩
      obtain ⟨b0, b1, b2, b3, _⟩ := four_rm HM7.out
      clear hm hgl hrm z0 z1 z2 e6 l1 l2 hxy t0 t1 t2 hb7
      go_wp2_with fail
      clear hw7 hN7 a0 a1 a2 a3 r0 r1 r2
      refine HLP.out.mono ?_
      rintro e w8 ⟨rfl, hb⟩
      have HB8 := Lib.hid (HB7.out.trans (hb.mono HB7.out.size))
      have HB78 := Lib.hid (HB67.out.trans (hb.mono HB67.out.size))
      have HM8 := Lib.hid (keep_block HM7.out hb)
      obtain ⟨r0, r1, r2, _⟩ := three_heads (keep_block HNR.out HB78.out)
      clear hb b0 b1 b2 b3
      obtain ⟨b0, b1, b2, b3, _⟩ := four_rm HM8.out
      go_wp2_with fail
      refine (HLQ.out _ HB8.out).mono ?_
      rintro e w9 ⟨rfl, hb⟩
      have HB9 := Lib.hid (HB78.out.trans (hb.mono HB78.out.size))
      have HM9 := Lib.hid (keep_block HM8.out hb)
      obtain ⟨t0, t1, t2⟩ := HT7.out w9 HB9.out
      clear hb b0 b1 b2 b3 r0 r1 r2
      obtain ⟨b0, b1, b2, b3, _⟩ := four_rm HM9.out
      go_wp2_with fail
      go_quiet (fail)
      go_wp2_with fail
      go_roundg (n - (i + 1))
      case measure => have := HG.out; omega
      case rel => exact ⟨i + 1, by omega, rfl, by go_num, below_drewN (HB6.out.trans (HB9.out.mono HB6.out.size)) _⟩
    · have hltz : ¬ (i : Int) < (n : Int) := by omega
      go_wp2_with fail
      go_returns
      exact ⟨rfl, HB5.out.trans (HB6.out.mono HB5.out.size)⟩
end Go.Proofs.Ytanchjcifhbllaa
