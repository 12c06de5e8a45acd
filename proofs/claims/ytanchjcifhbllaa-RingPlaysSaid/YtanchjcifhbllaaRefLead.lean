/-
  The document's Lead.
  Conditions: the numbers are small, and they fit.
-/
import Derived.Test.YtanchjcifhbllaaRefBlock
import Derived.Test.YtanchjcifhbllaaTold
set_option linter.unusedVariables false
set_option linter.unusedSimpArgs false
namespace Go.Proofs.Ytanchjcifhbllaa
open Go.RowKit

set_option maxRecDepth 100000 in
set_option maxHeartbeats 4000000 in
theorem refLead_any (W : World) (v : Value) (s : Rg) (id : Int) {C : Nat} (h : RowR W v s.l) (hs : Small s) (hf : Fit C s) : Calls Try.prog 28 #[refV v s, .int .i64 id] W (RetB (leadO s id) W) := by
  have hlen := hs.len
  have hlow : ∀ m ∈ s.l, m.on = true → (floorN s).1 * m.w ≤ m.n * (floorN s).2 := fun m hm ho => floor_low hf hm ho
  obtain ⟨fl1, fl2, fl3⟩ := hs.floor
  obtain ⟨A, c, rfl, hat⟩ := h.lies
  obtain ⟨n, hn⟩ : ∃ n, s.l.length = n := ⟨_, rfl⟩
  have HN := Lib.hid hn
  have HS := Lib.hid hs
  have HAT := Lib.hid hat
  have HROW := Lib.hid (fun (w' : World) (hb : Below W.heap.size W w') => h.below hb)
  have HFL := Lib.hid (fun (w' : World) (hb : Below W.heap.size W w') => refFloor_any w' _ s (h.below hb) hs)
  rw [hn] at hlen h HROW HFL ⊢
  obtain ⟨N, hN⟩ : ∃ N, W.heap.size = N := ⟨_, rfl⟩
  obtain ⟨w1, hw1⟩ : ∃ w1, W.alloc (.cells #[.slice A n c, .int .i64 s.num, .int .i64 s.den] 30) = w1 := ⟨_, rfl⟩
  have HN1 : Hid (w1.heap[N]? = some (.cells #[.slice A n c, .int .i64 s.num, .int .i64 s.den] 30 (0, 0))) := by rw [← hw1]; exact alloc_block W _ hN
  have HB1 : Hid (Below W.heap.size W w1) := by rw [← hw1]; exact (Below.refl _ W).alloc (Nat.le_refl _) _
  obtain ⟨r0, r1, r2, _⟩ := three_heads HN1.out
  have HF := Lib.hid (refFind_any w1 _ s id (HROW.out w1 HB1.out) (by have := HS.out.len; omega))
  unfold refV at *
  unfold leadO
  clear h hs hat hn
  cases hq : findK s.l id with
  | none =>
    rw [hq] at HF
    have e : idxO none = -1 := rfl
    rw [e] at HF
    clear hq e hlow hf fl1 fl2 fl3
    go_enter Try.func28, Try.ntmps28
    go_wp2_with fail
    clear hw1 hN
    refine HF.out.mono ?_
    rintro e w3 ⟨rfl, hb⟩
    have HB3 := Lib.hid (HB1.out.trans (hb.mono HB1.out.size))
    clear hb
    go_wp2_with fail
    go_returns
    exact ⟨rfl, HB3.out⟩
  | some k =>
    rw [hq] at HF
    have e : idxO (some k) = (k : Int) := rfl
    rw [e] at HF
    obtain ⟨m, hm, hid⟩ := findK_some hq
    have hkl := (List.getElem?_eq_some_iff.1 hm).1
    have hk1 : (k : Int) < (n : Int) := by have := HN.out; omega
    have hk0 : (0 : Int) ≤ (k : Int) := by omega
    obtain ⟨hm1, hm2, hm3⟩ := HS.out.mem m (List.mem_of_getElem? hm)
    have hml := hlow m (List.mem_of_getElem? hm)
    obtain ⟨g, hA, hgl, hr⟩ := HAT.out k m hm
    subst hA
    have HGK : Hid (∀ w', Below W.heap.size W w' → RmAt w' g (k * 4) m) := fun w' hb => hr.keep (hb.block g hgl)
    simp only [memK_at hm]
    unfold leadV
    clear e hid hm hkl hgl hr hq hlow hf
    cases hon : m.on with
    | false =>
      rw [if_neg (by decide)]
      clear hml fl1 fl2 fl3 hm1 hm2 hm3
      obtain ⟨m1, m2, m3, m4⟩ := m
      simp only at hon
      subst hon
      go_enter Try.func28, Try.ntmps28
      go_wp2_with fail
      clear hw1 hN
      refine HF.out.mono ?_
      rintro e w3 ⟨rfl, hb⟩
      have HB3 := Lib.hid (HB1.out.trans (hb.mono HB1.out.size))
      obtain ⟨a0, a1, a2, a3⟩ := HGK.out w3 HB3.out
      have HN3 := Lib.hid (keep_block HN1.out hb)
      clear hb r0 r1 r2
      obtain ⟨r0, r1, r2, _⟩ := three_heads HN3.out
      simp only at a0 a1 a2 a3
      go_wp2_with fail
      go_returns
      exact ⟨rfl, HB3.out⟩
    | true =>
      rw [if_pos rfl]
      have hml := hml hon
      obtain ⟨a, ha⟩ : ∃ a, leadA s m = a := ⟨_, rfl⟩
      obtain ⟨b, hb⟩ : ∃ b, leadB s m = b := ⟨_, rfl⟩
      rw [ha, hb]
      unfold leadA at ha
      unfold leadB at hb
      obtain ⟨f, hf⟩ : ∃ f, floorN s = f := ⟨_, rfl⟩
      rw [hf] at HFL ha hb hml fl1 fl2 fl3
      have t1 : m.n * f.2 ≤ 10000000 * 1000 := Nat.mul_le_mul hm3 fl2
      have t2 : m.w * f.2 ≤ 1000 * 1000 := Nat.mul_le_mul hm2 fl2
      have t3 : 0 < m.w * f.2 := Nat.mul_pos hm1 fl1
      obtain ⟨p1, hp1⟩ : ∃ p, m.n * f.2 = p := ⟨_, rfl⟩
      obtain ⟨p2, hp2⟩ : ∃ p, f.1 * m.w = p := ⟨_, rfl⟩
      rw [hp1, hp2] at ha hml
      have z5 : (m.n : Int) * (f.2 : Int) = (p1 : Int) := by rw [← Int.natCast_mul, hp1]
      have z6 : (f.1 : Int) * (m.w : Int) = (p2 : Int) := by rw [← Int.natCast_mul, hp2]
      have z7 : (p1 : Int) - (p2 : Int) = (a : Int) := by omega
      have z8 : (m.w : Int) * (f.2 : Int) = (b : Int) := by rw [← Int.natCast_mul, hb]
      have z9 : p1 ≤ 10000000000 := by omega
      have z11 : b ≤ 1000000 := by omega
      have z12 : a ≤ 10000000000 := by omega
      have hb1 : 0 < b := by omega
      have hg : 0 < gOf a b := Nat.gcd_pos_of_pos_right _ hb1
      have HGC := Lib.hid (fun w => refGcd_any (a + b) a b w (Nat.le_refl _) (by omega) (by omega))
      have Q1 := Lib.hid (div_wrap (u := a) (n := gOf a b) (q := quoN a (gOf a b)) rfl (by omega))
      have Q2 := Lib.hid (div_wrap (u := b) (n := gOf a b) (q := quoN b (gOf a b)) rfl (by omega))
      obtain ⟨gg, hgg⟩ : ∃ gg, gOf a b = gg := ⟨_, rfl⟩
      rw [hgg] at hg HGC Q1 Q2 ⊢
      clear ha hb hp1 hp2 t1 t2 t3 hf hgg
      obtain ⟨m1, m2, m3, m4⟩ := m
      obtain ⟨f1, f2⟩ := f
      simp only at hon HFL z5 z6 z8 hm1 hm2 hm3 fl1 fl2 fl3
      subst hon
      have Z5 := Lib.hid z5
      have Z6 := Lib.hid z6
      have Z7 := Lib.hid z7
      have Z8 := Lib.hid z8
      have HP := Lib.hid hml
      clear z5 z6 z7 z8 hml
      go_enter Try.func28, Try.ntmps28
      go_wp2_with fail
      clear hw1 hN
      refine HF.out.mono ?_
      rintro e w3 ⟨rfl, hb⟩
      have HB3 := Lib.hid (HB1.out.trans (hb.mono HB1.out.size))
      obtain ⟨a0, a1, a2, a3⟩ := HGK.out w3 HB3.out
      have HN3 := Lib.hid (keep_block HN1.out hb)
      clear hb r0 r1 r2
      obtain ⟨r0, r1, r2, _⟩ := three_heads HN3.out
      simp only at a0 a1 a2 a3
      obtain ⟨M, hM⟩ : ∃ M, w3.heap.size = M := ⟨_, rfl⟩
      obtain ⟨w4, hw4⟩ : ∃ w4, w3.alloc (.cells #[.int .i64 m1, .int .i64 m2, .int .i64 m3, .bool true] 71) = w4 := ⟨_, rfl⟩
      have HB34 : Hid (Below w3.heap.size w3 w4) := by rw [← hw4]; exact (Below.refl _ w3).alloc (Nat.le_refl _) _
      have HB4 := Lib.hid (HB3.out.trans (HB34.out.mono HB3.out.size))
      have HN4 := Lib.hid (keep_block HN3.out HB34.out)
      have HM4 : Hid (w4.heap[M]? = some (.cells #[.int .i64 m1, .int .i64 m2, .int .i64 m3, .bool true] 71 (0, 0))) := by rw [← hw4]; exact alloc_block w3 _ hM
      obtain ⟨s0, s1, s2, _⟩ := three_heads HN4.out
      go_wp2_with fail
      refine (HFL.out _ HB4.out).mono ?_
      rintro e w5 ⟨rfl, hb⟩
      have HB5 := Lib.hid (HB4.out.trans (hb.mono HB4.out.size))
      obtain ⟨b0, b1, b2, b3, _⟩ := four_rm (keep_block HM4.out hb)
      clear hb hw4 hM a0 a1 a2 a3 r0 r1 r2 s0 s1 s2
      have z5 := Z5.out
      have z6 := Z6.out
      have z7 := Z7.out
      have z8 := Z8.out
      go_wp2_with fail
      go_quiet (fail)
      clear z5 z6 z7 z8
      go_wp2_with fail
      refine (HGC.out _).mono ?_
      rintro e w6 ⟨rfl, rfl⟩
      have q1 := Q1.out
      have q2 := Q2.out
      go_wp2_with fail
      go_quiet (fail)
      go_wp2
      go_returns
      refine ⟨?_, ?_⟩
      · rw [← q1, ← q2]
        rfl
      · first
          | exact below_drewN (below_drewN HB5.out _) _
          | exact below_drewN HB5.out _
end Go.Proofs.Ytanchjcifhbllaa
