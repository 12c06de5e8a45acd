/-
  Lead, Members, Fork.
  Conditions: the ring lies in memory; its numbers fit.
-/
import Derived.Test.YtanchjcifhbllaaCalls2
set_option linter.unusedVariables false
namespace Go.Proofs.Ytanchjcifhbllaa
open Go.RowKit Go.Sort

/-! ### Lead -/
def leadV (s : Rg) (m : Mb) : Value := if m.on = true then .tuple #[.int .u64 (quoN (leadA s m) (gOf (leadA s m) (leadB s m))), .int .u64 (quoN (leadB s m) (gOf (leadA s m) (leadB s m))), .bool true] else .tuple #[.int .u64 0, .int .u64 0, .bool false]
def leadO (s : Rg) (id : Int) : Value := match findK s.l id with | none => .tuple #[.int .u64 0, .int .u64 0, .bool false] | some k => leadV s (memK s k)
set_option maxRecDepth 100000 in
set_option maxHeartbeats 2000000 in
theorem lead_any (W : World) (rb : Nat) (mv : Value) (s : Rg) (id : Int) (h : RingAt W rb mv s) (hk : Okay s) :
    Calls Try.prog 17 #[.pointer (some ⟨rb, 0, none⟩), .int .i64 id] W (RetB (leadO s id) W) := by
  have HR := Lib.hid h
  have HS := Lib.hid (seek_any W rb mv s id h hk.pos (by have := hk.len; omega))
  unfold leadO
  cases hq : findK s.l id with
  | none =>
    rw [hq] at HS
    unfold seekV at HS
    simp only at HS
    clear h hk hq
    go_enter Try.func17, Try.ntmps17
    go_wp2_with fail
    refine HS.out.mono ?_
    rintro e w1 ⟨rfl, hb⟩
    have HB := Lib.hid hb
    clear hb
    go_wp2
    go_returns
    exact ⟨rfl, HB.out⟩
  | some k =>
    rw [hq] at HS
    obtain ⟨m, hm, hid⟩ := findK_some hq
    clear hid
    have HFL := Lib.hid (fun (w' : World) (hb : Below W.heap.size W w') => floor_any w' rb _ s s.lim (h.below hb) hk.fit hk.pos (by have := hk.hi; omega))
    have hkl := (List.getElem?_eq_some_iff.1 hm).1
    have hlen := hk.len
    obtain ⟨g, cap, hmv, hg1, hg2, hg3, hg4, hat, hfr⟩ := h.at_ hm
    subst hmv
    obtain ⟨n, hn⟩ : ∃ n, s.l.length = n := ⟨_, rfl⟩
    rw [hn] at hkl hlen hg3 h HR
    unfold seekV at HS
    simp only at HS
    unfold passA at HFL
    have hk1 : (k : Int) < (n : Int) := by omega
    have hk0 : (0 : Int) ≤ (k : Int) := by omega
    have hk2 : (k : Int) < 32 := by omega
    have HG := Lib.hid hg1
    have HAT := Lib.hid hat
    simp only [memK_at hm]
    unfold leadV
    cases hon : m.on with
    | false =>
      rw [if_neg (by decide)]
      clear h hk hq hm hn hg1 hg2 hg3 hg4 hat hfr
      obtain ⟨m1, m2, m3, m4⟩ := m
      simp only at hon
      subst hon
      go_enter Try.func17, Try.ntmps17
      go_wp2_with fail
      refine HS.out.mono ?_
      rintro e w1 ⟨rfl, hb⟩
      have HB := Lib.hid hb
      obtain ⟨_, c1, _⟩ := (HR.out.below hb).heads
      obtain ⟨a0, a1, a2, a3⟩ := HAT.out.keep (hb.block g HG.out)
      clear hb
      go_wp2
      go_returns
      exact ⟨rfl, HB.out⟩
    | true =>
      rw [if_pos rfl]
      have HMEM2 := hk.mem (List.mem_of_getElem? hm)
      have hlow := floor_low hk.fit (List.mem_of_getElem? hm) hon
      obtain ⟨fr1, fr2, fr3⟩ := hk.frac
      have HP := Lib.hid (fun W => pass_any m HMEM2.2.1 W)
      obtain ⟨a, ha⟩ : ∃ a, leadA s m = a := ⟨_, rfl⟩
      obtain ⟨b, hb⟩ : ∃ b, leadB s m = b := ⟨_, rfl⟩
      rw [ha, hb]
      unfold leadA at ha
      unfold leadB at hb
      obtain ⟨f, hf⟩ : ∃ f, floorN s = f := ⟨_, rfl⟩
      rw [hf] at HFL ha hb hlow fr1 fr2 fr3
      have hmn : m.n ≤ 1099511627776000 := by
        have : (1099511627776 : Nat) * (m.n, m.w).2 ≤ 1099511627776 * 1000 := Nat.mul_le_mul_left _ HMEM2.1.den
        have := HMEM2.1.num
        simp only at *
        omega
      have hm1 : m.n * f.2 ≤ 1099511627776000 * 1000 := Nat.mul_le_mul hmn fr2
      have hm2 : m.w * f.2 ≤ 1000 * 1000 := Nat.mul_le_mul HMEM2.2.1 fr2
      have hmw := hk.fit.pos m (List.mem_of_getElem? hm)
      have hm3 : 0 < m.w * f.2 := Nat.mul_pos hmw fr1
      have HRED := Lib.hid (fun W => reduce_ok a b (by omega) (by omega) (by simp; omega) W)
      obtain ⟨p1, hp1⟩ : ∃ p, m.n * f.2 = p := ⟨_, rfl⟩
      obtain ⟨p2, hp2⟩ : ∃ p, f.1 * m.w = p := ⟨_, rfl⟩
      rw [hp1, hp2] at ha hlow
      have z1 : IntKind.u64.wrap ((m.n : Int) * (f.2 : Int)) = (p1 : Int) := by rw [← Int.natCast_mul, hp1]; exact u64_small (by omega)
      have z2 : IntKind.u64.wrap ((f.1 : Int) * (m.w : Int)) = (p2 : Int) := by rw [← Int.natCast_mul, hp2]; exact u64_small (by omega)
      have z3 : IntKind.u64.wrap ((p1 : Int) - (p2 : Int)) = (a : Int) := by
        have : (p1 : Int) - (p2 : Int) = (a : Int) := by omega
        rw [this]; exact u64_small (by omega)
      have z4 : IntKind.u64.wrap ((m.w : Int) * (f.2 : Int)) = (b : Int) := by rw [← Int.natCast_mul, hb]; exact u64_small (by omega)
      have z5 : (m.n : Int) * (f.2 : Int) = (p1 : Int) := by rw [← Int.natCast_mul, hp1]
      have z6 : (f.1 : Int) * (m.w : Int) = (p2 : Int) := by rw [← Int.natCast_mul, hp2]
      have z7 : (p1 : Int) - (p2 : Int) = (a : Int) := by omega
      have z8 : (m.w : Int) * (f.2 : Int) = (b : Int) := by rw [← Int.natCast_mul, hb]
      have z9 : p1 ≤ 1099511627776000 * 1000 := by omega
      have z10 : p2 ≤ p1 := hlow
      have z11 : b ≤ 1000000 := by omega
      have z12 : a ≤ 1099511627776000 * 1000 := by omega
      generalize quoN a (gOf a b) = qa at *
      generalize quoN b (gOf a b) = qb at *
      clear h hk hq hm hn hg1 hg2 hg3 hg4 hat hfr HMEM2 ha hb hp1 hp2 hm1 hm2 hm3 hmw hmn hf fr1 fr2 fr3 hlow
      unfold mbA passA at HP
      obtain ⟨m1, m2, m3, m4⟩ := m
      obtain ⟨f1, f2⟩ := f
      simp only at hon HP HFL z1 z2 z4 z5 z6 z8
      subst hon
      clear z1 z2 z3 z4
      have Z5 := Lib.hid z5
      have Z6 := Lib.hid z6
      have Z7 := Lib.hid z7
      have Z8 := Lib.hid z8
      clear z5 z6 z7 z8
      go_enter Try.func17, Try.ntmps17
      go_wp2_with fail
      refine HS.out.mono ?_
      rintro e w1 ⟨rfl, hb⟩
      have HB := Lib.hid hb
      obtain ⟨_, c1, _⟩ := (HR.out.below hb).heads
      obtain ⟨a0, a1, a2, a3⟩ := HAT.out.keep (hb.block g HG.out)
      clear hb
      go_wp2_with fail
      refine (HP.out _).mono ?_
      rintro e w2 ⟨rfl, hb⟩
      have HB2 := Lib.hid (HB.out.trans (hb.below.mono HB.out.size))
      clear a0 a1 a2 a3 c1 hb
      go_wp2_with fail
      refine (HFL.out _ HB2.out).mono ?_
      rintro e w3 ⟨rfl, hb⟩
      have HB3 := Lib.hid (HB2.out.trans (hb.mono HB2.out.size))
      clear hb
      have z5 := Z5.out
      have z6 := Z6.out
      have z7 := Z7.out
      have z8 := Z8.out
      go_wp2_with fail
      refine (HRED.out _).mono ?_
      rintro e w4 ⟨rfl, hb⟩
      have HB4 : Hid (Below W.heap.size W w4) := by
        show Below _ _ _
        refine Below.trans ?_ (hb.mono ?_)
        · first
            | exact (HB3.out.alloc HB3.out.size _).alloc (by simp; have := HB3.out.size; omega) _
            | exact HB3.out
        · simp
          have := HB3.out.size
          omega
      clear hb z5 z6 z7 z8
      go_wp2
      go_returns
      exact ⟨rfl, HB4.out⟩

/-! ### Members -/
/-- A slice of members as they are told, in a block at B or above. -/
def TellAt (W : World) (b o : Nat) (m : Mb) : Prop := W.cell? ⟨b, o, none⟩ = some (.int .i64 m.id) ∧ W.cell? ⟨b, o + 1, none⟩ = some (.int .i64 m.w) ∧ W.cell? ⟨b, o + 2, none⟩ = some (.bool m.on)
def ToldAt (W : World) (B : Nat) (v : Value) (l : List Mb) : Prop :=
  ∃ b, v = .slice (some ⟨b, 0, none⟩) l.length l.length ∧ B ≤ b ∧ b < W.heap.size ∧ ∀ j m, l[j]? = some m → TellAt W b (j * 3) m
theorem ToldAt.keep {W W' : World} {B : Nat} {v : Value} {l : List Mb} (h : ToldAt W B v l) (hs : W.heap.size ≤ W'.heap.size) (hk : ∀ k, B ≤ k → k < W.heap.size → W'.heap[k]? = W.heap[k]?) : ToldAt W' B v l := by
  obtain ⟨b, h1, h2, h3, h4⟩ := h
  refine ⟨b, h1, h2, by omega, fun j m hj => ?_⟩
  obtain ⟨a0, a1, a2⟩ := h4 j m hj
  have e := hk b h2 h3
  exact ⟨(cell_same e _).trans a0, (cell_same e _).trans a1, (cell_same e _).trans a2⟩
theorem ToldAt.below {W W' : World} {B : Nat} {v : Value} {l : List Mb} (h : ToldAt W B v l) (hb : Below W.heap.size W W') : ToldAt W' B v l := h.keep hb.size fun k _ hk => hb.block k hk
def ToldPost (W : World) (l : List Mb) (e : Ending) (w' : World) : Prop := ∃ v, e = .returned v ∧ ToldAt w' W.heap.size v l ∧ Below W.heap.size W w'
theorem Try.infoTell : (Try.prog.info? 44).map (fun i => (i.zero, i.size, i.bytes)) = some (some (.agg #[.int .i64 0, .int .i64 0, .bool false]), 3, 24) := by kernel_rfl
def tell0 : Array Value := #[.int .i64 0, .int .i64 0, .bool false]
theorem mk_tell (W : World) (n : Nat) (h : n ≤ 1024) : (Instr.makeSlice 41 (.int .i64 (n : Int)) (.int .i64 (n : Int))).run Try.prog W = .ok (.slice (some ⟨W.heap.size, 0, none⟩) n n) (W.alloc (.cells (madeCells tell0 (n * 3)) 44)) := by
  obtain ⟨i, hi, e⟩ := Option.map_eq_some_iff.1 Try.infoTell
  simp only [Prod.mk.injEq] at e
  obtain ⟨e1, e2, e3⟩ := e
  have hr := run_make (P := Try.prog) W 41 44 i (.agg #[.int .i64 0, .int .i64 0, .bool false]) Try.underlying41 hi e1 .i64 .i64 n n (by omega) (Int.le_refl _) (by rw [e3]; omega) (by omega)
  rw [hr, e2]
  simp only [Int.toNat_natCast]
  rfl
/-- The first k are told. -/
structure Telling (W : World) (b n k : Nat) (l : List Mb) (cs : Array Value) : Prop where
  block : W.heap[b]? = some (.cells cs 44 (0, 0))
  size : cs.size = n * 3
  at_ : ∀ j m, j < k → l[j]? = some m → cs[j * 3]? = some (.int .i64 m.id) ∧ cs[j * 3 + 1]? = some (.int .i64 m.w) ∧ cs[j * 3 + 2]? = some (.bool m.on)
theorem Telling.next {W : World} {b n k : Nat} {l : List Mb} {cs : Array Value} (h : Telling W b n k l cs) {m : Mb} (hk : k < n) (hm : l[k]? = some m) :
    Telling (((W.setCell ⟨b, k * 3, none⟩ (.int .i64 m.id)).setCell ⟨b, k * 3 + 1, none⟩ (.int .i64 m.w)).setCell ⟨b, k * 3 + 2, none⟩ (.bool m.on)) b n (k + 1) l (((cs.setIfInBounds (k * 3) (.int .i64 m.id)).setIfInBounds (k * 3 + 1) (.int .i64 m.w)).setIfInBounds (k * 3 + 2) (.bool m.on)) := by
  have hs := h.size
  refine ⟨heap_setCell_mem _ _ _ _ _ _ _ (heap_setCell_mem _ _ _ _ _ _ _ (heap_setCell_mem _ _ _ _ _ _ _ h.block)), by simp [hs], fun j x hj hx => ?_⟩
  by_cases e : j = k
  · subst e
    rw [hm] at hx
    injection hx with hx
    subst hx
    refine ⟨?_, ?_, ?_⟩ <;> simp [Array.getElem?_setIfInBounds, hs] <;> omega
  · obtain ⟨a0, a1, a2⟩ := h.at_ j x (by omega) hx
    refine ⟨?_, ?_, ?_⟩
    · rw [Array.getElem?_setIfInBounds, if_neg (by omega), Array.getElem?_setIfInBounds, if_neg (by omega), Array.getElem?_setIfInBounds, if_neg (by omega)]; exact a0
    · rw [Array.getElem?_setIfInBounds, if_neg (by omega), Array.getElem?_setIfInBounds, if_neg (by omega), Array.getElem?_setIfInBounds, if_neg (by omega)]; exact a1
    · rw [Array.getElem?_setIfInBounds, if_neg (by omega), Array.getElem?_setIfInBounds, if_neg (by omega), Array.getElem?_setIfInBounds, if_neg (by omega)]; exact a2
theorem Telling.cells {W : World} {b n k : Nat} {l : List Mb} {cs : Array Value} (h : Telling W b n k l cs) : ∀ j, j < n * 3 → (∃ u, W.cell? ⟨b, j, none⟩ = some u) ∧ W.frozen? ⟨b, j, none⟩ = false := fun j hj => by
  refine ⟨⟨cs[j]'(by rw [h.size]; exact hj), ?_⟩, by simp [World.frozen?, h.block]⟩
  rw [cell_of_row W b j _ _ (0, 0) h.block]
  exact Array.getElem?_eq_getElem _
theorem Telling.keep {W W' : World} {b n k : Nat} {l : List Mb} {cs : Array Value} (h : Telling W b n k l cs) (hb : Below W.heap.size W W') : Telling W' b n k l cs := ⟨keep_block h.block hb, h.size, h.at_⟩
theorem Telling.told {W : World} {B b n : Nat} {l : List Mb} {cs : Array Value} (h : Telling W b n n l cs) (hn : l.length = n) (hB : B ≤ b) : ToldAt W B (.slice (some ⟨b, 0, none⟩) n n) l := by
  subst hn
  refine ⟨b, rfl, hB, heap_lt h.block, fun j m hj => ?_⟩
  obtain ⟨a0, a1, a2⟩ := h.at_ j m (List.getElem?_eq_some_iff.1 hj).1 hj
  refine ⟨?_, ?_, ?_⟩
  · rw [cell_of_row W b _ _ _ (0, 0) h.block]; exact a0
  · rw [cell_of_row W b _ _ _ (0, 0) h.block]; exact a1
  · rw [cell_of_row W b _ _ _ (0, 0) h.block]; exact a2

set_option maxRecDepth 100000 in
set_option maxHeartbeats 2000000 in
theorem members_any (W : World) (rb : Nat) (mv : Value) (s : Rg) (h : RingAt W rb mv s) (hk : Okay s) :
    Calls Try.prog 16 #[.pointer (some ⟨rb, 0, none⟩)] W (ToldPost W s.l) := by
  have HM := Lib.hid (isMade_any W rb mv s h hk.pos)
  have HR := Lib.hid h
  have hlen := hk.len
  obtain ⟨A, c, rfl⟩ := h.form
  obtain ⟨n, hn⟩ : ∃ n, s.l.length = n := ⟨_, rfl⟩
  have HN := Lib.hid hn
  rw [hn] at HR hlen h
  obtain ⟨_, c1, _⟩ := h.heads
  have hmk := mk_tell W n (by omega)
  obtain ⟨b, hb⟩ : ∃ b, W.heap.size = b := ⟨_, rfl⟩
  obtain ⟨w1, hw1⟩ : ∃ w1, W.alloc (.cells (madeCells tell0 (n * 3)) 44) = w1 := ⟨_, rfl⟩
  have HB1 : Hid (Below W.heap.size W w1) := by rw [← hw1]; exact (Below.refl _ W).alloc (Nat.le_refl _) _
  have HT1 : Hid (Telling w1 b n 0 s.l (madeCells tell0 (n * 3))) := ⟨by rw [← hw1]; exact alloc_block W _ hb, by simp [madeCells], fun j m hj => absurd hj (Nat.not_lt_zero _)⟩
  rw [hw1, hb] at hmk
  have HSZ := Lib.hid hb
  have HR1 := Lib.hid (HR.out.below HB1.out)
  obtain ⟨_, c1', _⟩ := HR1.out.heads
  clear h hk hn hw1 hb
  go_enter Try.func16, Try.ntmps16
  go_wp2_with fail
  refine HM.out.mono ?_
  rintro e w' ⟨rfl, rfl⟩
  go_wp2_with fail
  go_loopg [20] n (fun gg s20 wr => ∃ (k : Nat) (cs : Array Value), k ≤ n ∧ gg = n - k ∧ s20 = .int .i64 k ∧ Below W.heap.size W wr ∧ Telling wr b n k s.l cs)
  case atStart => exact ⟨0, _, Nat.zero_le _, by omega, rfl, HB1.out, HT1.out⟩
  case round =>
    obtain ⟨k, cs, hk, hg, rfl, hbw, ht⟩ := hrel
    have HB := Lib.hid hbw
    have HT := Lib.hid ht
    have HG := Lib.hid hg
    have HRR := Lib.hid (HR.out.below hbw)
    clear hbw ht hg
    by_cases hlt : k < n
    · have hltz : (k : Int) < (n : Int) := by omega
      have hk0 : (0 : Int) ≤ (k : Int) := by omega
      obtain ⟨m, hm⟩ := ex_at (xs := s.l) (k := k) (by rw [HN.out]; exact hlt)
      have HMM := Lib.hid hm
      obtain ⟨g, cap, hA, hgl, hgne, _, _, ⟨a0, a1, a2, a3⟩, _⟩ := HRR.out.at_ hm
      injection hA with hA hA1 hA2; clear hA1 hA2
      subst hA
      obtain ⟨_, c1'', _⟩ := HRR.out.heads
      obtain ⟨m1, m2, m3, m4⟩ := m
      simp only at a0 a1 a2 a3
      obtain ⟨w2, hw2⟩ : ∃ w2, wr.alloc (.cells #[.int .i64 m1, .int .i64 m2, .bool m4, .int .u64 m3] 76) = w2 := ⟨_, rfl⟩
      obtain ⟨N, hN⟩ : ∃ N, wr.heap.size = N := ⟨_, rfl⟩
      have hb2 : Below wr.heap.size wr w2 := by rw [← hw2]; exact (Below.refl _ wr).alloc (Nat.le_refl _) _
      obtain ⟨n0, n1, n2, n3⟩ := four_heads (m := ⟨m1, m2, m3, m4⟩) (show w2.heap[N]? = some (.cells #[.int .i64 m1, .int .i64 m2, .bool m4, .int .u64 m3] 76 (0, 0)) by rw [← hw2]; exact alloc_block wr _ hN)
      simp only [Nat.zero_add] at n0 n1 n2 n3
      have HT2 := Lib.hid (HT.out.keep hb2)
      have HB2 := Lib.hid (HB.out.trans (hb2.mono HB.out.size))
      obtain ⟨⟨u0, t0⟩, t0'⟩ := HT2.out.cells (k * 3) (by omega)
      obtain ⟨⟨u1, t1⟩, t1'⟩ := HT2.out.cells (k * 3 + 1) (by omega)
      obtain ⟨⟨u2, t2⟩, t2'⟩ := HT2.out.cells (k * 3 + 2) (by omega)
      clear hb2 hm
      go_wp2_with fail
      go_roundg (n - (k + 1))
      case measure => have := HG.out; omega
      case rel =>
        have hbb : W.heap.size ≤ b := Nat.le_of_eq HSZ.out
        have hnx := Telling.next (m := ⟨m1, m2, m3, m4⟩) HT2.out hlt HMM.out
        simp only at hnx
        refine ⟨k + 1, _, Nat.succ_le_of_lt hlt, rfl, by go_num, ?_, hnx⟩
        exact ((HB2.out.setCell (p := ⟨b, k * 3, none⟩) hbb _).setCell (p := ⟨b, k * 3 + 1, none⟩) hbb _).setCell (p := ⟨b, k * 3 + 2, none⟩) hbb _
    · have hltz : ¬ (k : Int) < (n : Int) := by omega
      have hkn : k = n := by omega
      rw [hkn] at HT
      have HEND : Hid (∀ e, e = .returned (.slice (some ⟨b, 0, none⟩) n n) → ToldPost W s.l e wr) := fun e he => ⟨_, he, HT.out.told HN.out (Nat.le_of_eq HSZ.out), HB.out⟩
      go_wp2
      go_ret
      exact HEND.out _ rfl

/-! ### Fork -/
def ForkPost (W : World) (s : Rg) (e : Ending) (w' : World) : Prop :=
  ∃ rb' mv', e = .returned (.pointer (some ⟨rb', 0, none⟩)) ∧ RingAt w' rb' mv' s ∧ W.heap.size ≤ rb' ∧ (∀ k, mv'.ownBlock = some k → W.heap.size ≤ k) ∧ Below W.heap.size W w'
set_option maxRecDepth 100000 in
set_option maxHeartbeats 2000000 in
theorem fork_any (W : World) (rb : Nat) (mv : Value) (s : Rg) (h : RingAt W rb mv s) (hk : Okay s) :
    Calls Try.prog 25 #[.pointer (some ⟨rb, 0, none⟩)] W (ForkPost W s) := by
  have HM := Lib.hid (isMade_any W rb mv s h hk.pos)
  have HR := Lib.hid h
  have hlen := hk.len
  obtain ⟨A, c, rfl⟩ := h.form
  obtain ⟨n, hn⟩ : ∃ n, s.l.length = n := ⟨_, rfl⟩
  have HN := Lib.hid hn
  rw [hn] at HR
  have HS1 : Hid (∀ w', Below W.heap.size W w' → w'.cell? ⟨rb, 0, none⟩ = some (.int .u64 s.lim) ∧ w'.cell? ⟨rb, 1, none⟩ = some (.slice A n c) ∧ w'.cell? ⟨rb, 2, none⟩ = some (.int .u64 s.num) ∧ w'.cell? ⟨rb, 3, none⟩ = some (.int .u64 s.den)) := fun w' hb => by
    obtain ⟨c0, c1, c2, c3, _⟩ := (HR.out.below hb).heads
    exact ⟨c0, c1, c2, c3⟩
  have HDR := Lib.hid (show Below W.heap.size W W.drew from below_drewN (Below.refl _ _) 1)
  have HC := Lib.hid (clone_any 0 _ s.l W.drew ((HR.out.below HDR.out).row) (by omega))
  have mixed : Try.prog.follows .mixedOrders = true := by kernel_rfl
  clear h hk hn
  go_enter Try.func25, Try.ntmps25
  go_wp2_with fail
  refine HM.out.mono ?_
  rintro e w' ⟨rfl, rfl⟩
  go_wp2_with fail
  refine wp_region_N (S1 := fun w' => Below W.heap.size W w') (S2 := fun W => True) (N := fun i => i != 99) (by kernel_rfl) ?_
  change wpAnyN _ _ _ _ _ _ _ 16 (Array.replicate 16 false) _ _
  refine wpAnyN_take false (i := 0) (v := .pointer (some ⟨rb, 0, none⟩)) rfl (by kernel_rfl) (by kernel_rfl) (by kernel_rfl) (fun _ _ _ h => h) (.inl ⟨by kernel_rfl, fun W_ hS => ?_⟩) ⟨HDR.out, fun h => by cases h⟩ ?_
  · simp [execOp, Act.eval, go_sem]
  refine wpAnyN_take false (i := 1) (v := .pointer (some ⟨rb, 0, none⟩)) rfl (by kernel_rfl) (by kernel_rfl) (by kernel_rfl) (fun _ _ _ h => h) (.inl ⟨by kernel_rfl, fun W_ hS => ?_⟩) ⟨HDR.out, fun h => by cases h⟩ ?_
  · simp [execOp, Act.eval, Act.put, go_sem]
  refine wpAnyN_take false (i := 2) (v := .pointer (some ⟨rb, 0, none⟩)) rfl (by kernel_rfl) (by kernel_rfl) (by kernel_rfl) (fun _ _ _ h => h) (.inl ⟨by kernel_rfl, fun W_ hS => ?_⟩) ⟨HDR.out, fun h => by cases h⟩ ?_
  · simp [execOp, Act.eval, Act.put, go_sem]
  refine wpAnyN_take false (i := 3) (v := .int .u64 s.lim) rfl (by kernel_rfl) (by kernel_rfl) (by kernel_rfl) (fun _ _ _ h => h) (.inl ⟨by kernel_rfl, fun W_ hS => ?_⟩) ⟨HDR.out, fun h => by cases h⟩ ?_
  · simp [execOp, Act.eval, Act.put, go_sem, (HS1.out W_ hS.1).1]
  refine wpAnyN_take false (i := 4) (v := .pointer (some ⟨rb, 0, none⟩)) rfl (by kernel_rfl) (by kernel_rfl) (by kernel_rfl) (fun _ _ _ h => h) (.inl ⟨by kernel_rfl, fun W_ hS => ?_⟩) ⟨HDR.out, fun h => by cases h⟩ ?_
  · simp [execOp, Act.eval, Act.put, go_sem]
  refine wpAnyN_take false (i := 5) (v := .pointer (some ⟨rb, 0, none⟩)) rfl (by kernel_rfl) (by kernel_rfl) (by kernel_rfl) (fun _ _ _ h => h) (.inl ⟨by kernel_rfl, fun W_ hS => ?_⟩) ⟨HDR.out, fun h => by cases h⟩ ?_
  · simp [execOp, Act.eval, Act.put, go_sem]
  simp only [Act.put]
  go_simp
  refine wpAnyN_take false (i := 6) (v := .pointer (some ⟨rb, 1, none⟩)) rfl (by kernel_rfl) (by kernel_rfl) (by kernel_rfl) (fun _ _ _ h => h) (.inl ⟨by kernel_rfl, fun W_ hS => ?_⟩) ⟨HDR.out, fun h => by cases h⟩ ?_
  · simp [execOp, Act.eval, go_sem]
  refine wpAnyN_take false (i := 7) (v := .slice A n c) rfl (by kernel_rfl) (by kernel_rfl) (by kernel_rfl) (fun _ _ _ h => h) (.inl ⟨by kernel_rfl, fun W_ hS => ?_⟩) ⟨HDR.out, fun h => by cases h⟩ ?_
  · simp [execOp, Act.eval, Act.put, go_sem, (HS1.out W_ hS.1).2.1]
  refine wpAnyN_take false (i := 9) (v := .pointer (some ⟨rb, 0, none⟩)) rfl (by kernel_rfl) (by kernel_rfl) (by kernel_rfl) (fun _ _ _ h => h) (.inl ⟨by kernel_rfl, fun W_ hS => ?_⟩) ⟨HDR.out, fun h => by cases h⟩ ?_
  · simp [execOp, Act.eval, Act.put, go_sem]
  refine wpAnyN_take false (i := 10) (v := .pointer (some ⟨rb, 0, none⟩)) rfl (by kernel_rfl) (by kernel_rfl) (by kernel_rfl) (fun _ _ _ h => h) (.inl ⟨by kernel_rfl, fun W_ hS => ?_⟩) ⟨HDR.out, fun h => by cases h⟩ ?_
  · simp [execOp, Act.eval, Act.put, go_sem]
  refine wpAnyN_take false (i := 11) (v := .pointer (some ⟨rb, 2, none⟩)) rfl (by kernel_rfl) (by kernel_rfl) (by kernel_rfl) (fun _ _ _ h => h) (.inl ⟨by kernel_rfl, fun W_ hS => ?_⟩) ⟨HDR.out, fun h => by cases h⟩ ?_
  · simp [execOp, Act.eval, Act.put, go_sem]
  refine wpAnyN_take false (i := 12) (v := .agg #[.int .u64 s.num, .int .u64 s.den]) rfl (by kernel_rfl) (by kernel_rfl) (by kernel_rfl) (fun _ _ _ h => h) (.inl ⟨by kernel_rfl, fun W_ hS => ?_⟩) ⟨HDR.out, fun h => by cases h⟩ ?_
  · simp [execOp, Act.eval, Act.put, go_sem, (HS1.out W_ hS.1).2.2.1, (HS1.out W_ hS.1).2.2.2]
  simp only [Act.put]
  go_simp
  refine wpAnyN_step (i := 8) (by kernel_rfl) rfl (by kernel_rfl) ?_
  intro K' hK
  try simp only [Act.put]
  go_simp
  refine HC.out.mono ?_
  rintro e w2 ⟨v2, rfl, h1, h2⟩
  obtain ⟨A', c', rfl⟩ := own_form h1
  have HB2 := Lib.hid (HDR.out.trans h2)
  have HEND : Hid (∀ e, e = .returned (.pointer (some ⟨w2.heap.size, 0, none⟩)) → ForkPost W s e (w2.alloc (.cells #[.int .u64 s.lim, .slice A' s.l.length c', .int .u64 s.num, .int .u64 s.den] 60))) := fun e he => by
    have hal := (Below.refl w2.heap.size w2).alloc (Nat.le_refl _) (.cells #[.int .u64 s.lim, .slice A' s.l.length c', .int .u64 s.num, .int .u64 s.den] 60)
    exact ⟨_, _, he, ⟨heap_alloc_new w2 _, own_mono (own_below h1 hal) (Nat.zero_le _), fun e => by have := own_lt h1 e; omega⟩, HB2.out.size, own_base h1, HB2.out.trans (hal.mono HB2.out.size)⟩
  clear h1 h2
  refine hK.out _ _ (HB2.out) (fun _ _ => trivial) ?_
  refine wpAnyN_take false (i := 13) (v := .agg #[.int .u64 s.lim, .slice A' s.l.length c', .int .u64 s.num, .int .u64 s.den]) rfl (by kernel_rfl) (by kernel_rfl) (by kernel_rfl) (fun _ _ _ h => h) (.inl ⟨by kernel_rfl, fun W_ hS => ?_⟩) ⟨HB2.out, fun h => by cases h⟩ ?_
  · simp [execOp, Act.eval, go_sem]
  refine wpAnyN_step (i := 14) (by kernel_rfl) rfl (by kernel_rfl) ?_
  intro K' hK
  try simp only [Act.put]
  go_simp
  refine hK.out _ _ (HB2.out.alloc HB2.out.size _) (fun _ _ => trivial) ?_
  refine wpAnyN_take false (i := 15) (v := .pointer (some ⟨w2.heap.size, 0, none⟩)) rfl (by kernel_rfl) (by kernel_rfl) (by kernel_rfl) (fun _ _ _ h => h) (.inl ⟨by kernel_rfl, fun W_ hS => ?_⟩) ⟨HB2.out.alloc HB2.out.size _, fun h => by cases h⟩ ?_
  · simp [execOp, Act.eval, go_sem]
  refine wpAnyN_done (by kernel_rfl) ?_
  try simp only [Act.put]
  try go_simp
  go_wp2
  go_ret
  exact HEND.out _ rfl
end Go.Proofs.Ytanchjcifhbllaa
