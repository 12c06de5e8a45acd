/-
  Cores, Wants and Wholes of program and document.
  Conditions: the slice reads as places.
-/
import Derived.Test.YtkgkanmccaodfaaM02
import Derived.OwnWalk
import Derived.WalkLawsBesides
import Derived.Test.YtkgkanmccaodfaaM01
import Derived.Laws.BitsAllLaws
import Derived.Laws.MakeOwn

/-
  Ticks of a set as a list: the program's and the document's, and the document's Count.
  Conditions: the numbers are of their kinds.
-/
set_option linter.unusedVariables false
namespace Go.Proofs.Ytkgkanmccaodfaa
open Go.RowKit

/-- The ticks below k, as ints. -/
def ticksI (m k : Nat) : List Int := (ticksT m k).map (fun t : Nat => (t : Int))
theorem ticksI_length (m k : Nat) : (ticksI m k).length = cntT m k := by unfold ticksI cntT; rw [List.length_map]
theorem ticksI_yes {m k : Nat} (h : m.testBit k = true) : ticksI m (k + 1) = ticksI m k ++ [(k : Int)] := by
  unfold ticksI
  rw [ticksT_succ, if_pos h, List.map_append]
  rfl
theorem ticksI_no {m k : Nat} (h : m.testBit k = false) : ticksI m (k + 1) = ticksI m k := by
  unfold ticksI
  rw [ticksT_succ, if_neg (by rw [h]; simp)]
theorem ticksI_get {m i : Nat} {x : Int} (h : (ticksI m 64)[i]? = some x) : ∃ j : Nat, x = (j : Int) ∧ (ticks m)[i]? = some j := by
  unfold ticksI at h
  rw [List.getElem?_map] at h
  obtain ⟨j, hj, rfl⟩ := Option.map_eq_some_iff.1 h
  exact ⟨j, rfl, hj⟩

/-- A list that a call answers. -/
def RetL (xs : List Int) (w : World) (e : Ending) (w' : World) : Prop := ∃ v, e = .returned v ∧ IntsAt w' v xs ∧ Below w.heap.size w w'

theorem ints_of_own {W : World} {base : Nat} {v : Value} {xs : List Int} (h : W.ownsRow base 3 1 v xs.length (xs.map (Value.int .i64))) (hl : xs.length ≤ 9223372036854775807) : IntsAt W v xs := by
  obtain ⟨h1, h2⟩ := h
  rcases h2 with ⟨rfl, h0⟩ | ⟨g, cap, cur, rfl, hg, hh, hn, hc, hs, ht⟩
  · have : xs = [] := List.eq_nil_of_length_eq_zero h0
    subst this
    exact IntsAt.nil W
  · refine ⟨_, _, rfl, hl, fun _ => ⟨g, 0, rfl, ?_, fun j x hx => ?_⟩⟩
    · rcases Nat.lt_or_ge g W.heap.size with h' | h'
      · exact h'
      · rw [Array.getElem?_eq_none h'] at hh; cases hh
    · rw [Nat.zero_add, cell_of_row W g j _ _ (0, 0) hh]
      have hj : j < xs.length := (List.getElem?_eq_some_iff.1 hx).1
      have : (cur.toList.take (xs.length * 1))[j]? = some (.int .i64 x) := by rw [ht, List.getElem?_map, hx]; rfl
      rw [List.getElem?_take, if_pos (by omega)] at this
      rw [← this]
      simp

theorem below_grown4 {w w' : World} {row : Option Nat} {B : Nat} (hg : w.grownBy w' row) (hB : B ≤ w.heap.size) (hr : ∀ k, row = some k → B ≤ k) : Below B w w' := (Below.refl B w).grown hg hB hr
theorem own_base4 {w : World} {base e size n : Nat} {v : Value} {xs : List Value} (h : w.ownsRow base e size v n xs) : ∀ k, v.ownBlock = some k → base ≤ k := by
  intro k hk
  rcases h.2 with ⟨h1, _⟩ | ⟨g, cap, cur, h1, h2, _⟩
  · subst h1; cases hk
  · subst h1; cases hk; exact h2

def TicksRel (m : Nat) (w : World) (g : Nat) (s i : Value) (wr : World) : Prop :=
  ∃ k : Nat, k ≤ 64 ∧ g = 64 - k ∧ i = .int .i64 k ∧ Below w.heap.size w wr ∧ wr.ownsRow w.heap.size 3 1 s (ticksI m k).length ((ticksI m k).map (Value.int .i64))

set_option maxRecDepth 100000 in
set_option maxHeartbeats 1000000 in
theorem ticks_any (m : Nat) (w : World) (hm : m < 18446744073709551616) (HC : ∀ W, Calls Try.prog 74 #[.int .u64 m] W (Ret (.int .i64 (cnt m)) W)) :
    Calls Try.prog 75 #[.int .u64 m] w (RetL (ticksI m 64) w) := by
  obtain ⟨i0, hi, hz0, hz1, hz2⟩ := info_parts Try.infoInt
  have HCC := Lib.hid HC
  have hc64 := cnt_le m
  generalize cnt m = c at *
  clear HC
  go_enter Try.func75, Try.ntmps75
  go_wp2_with (first
    | (go_at_call 74; refine (HCC.out _).mono ?_; rintro e w' ⟨rfl, rfl⟩)
    | (at_make; refine wpList_make_own _ rfl _ _ 29 rfl w.heap.size 3 i0 (.int .i64 0) 1 Try.underlying29 hi hz0 hz1 _ _ _ c rfl rfl rfl (by rw [hz2]; omega) (by unfold maxLen; omega) (Nat.le_refl _) ?_; intro w1 hown1 hgrow1))
  have HB0 := Lib.hid (below_grown4 hgrow1 (Nat.le_refl _) (fun k h => by cases h))
  have HO0 := Lib.hid hown1
  clear hown1 hgrow1
  go_loopg [3, 8] 64 (fun g s i wr => TicksRel m w g s i wr)
  case atStart => exact ⟨0, Nat.zero_le _, rfl, rfl, HB0.out, HO0.out⟩
  case round =>
    obtain ⟨k, hk, hg, rfl, hbr, hown⟩ := hrel
    have HG := Lib.hid hg
    have HB := Lib.hid hbr
    have HO := Lib.hid hown
    clear hg hbr hown
    by_cases hlt : k < 64
    · have HH := Lib.hid (fun W => has_any m (k : Int) W hm)
      rw [hasB_nat hlt] at HH
      have hlen : cntT m k ≤ k := cntT_le m k
      rw [ticksI_length] at HO
      generalize hn : cntT m k = n at *
      have HN := Lib.hid hn
      clear hn
      cases hb : m.testBit k
      · have HE := Lib.hid (ticksI_no hb)
        rw [hb] at HH
        clear hb
        go_wp2_with (go_at_call 77; refine (HH.out _).mono ?_; rintro e w' ⟨rfl, rfl⟩)
        go_roundg (64 - (k + 1))
        case measure => have := HG.out; omega
        case rel => exact ⟨k + 1, by omega, rfl, by go_num, HB.out, by rw [HE.out, ticksI_length, HN.out]; exact HO.out⟩
      · have HE := Lib.hid (ticksI_yes hb)
        rw [hb] at HH
        clear hb
        have hsz := HB.out.size
        go_wp2_with (first
          | (go_at_call 77; refine (HH.out _).mono ?_; rintro e w' ⟨rfl, rfl⟩)
          | (at_builtin; refine wpList_append_own _ rfl _ _ 29 rfl w.heap.size 3 i0 (.int .i64 0) 1 8 Try.underlying29 hi hz0 hz1 hz2 rfl (by decide) _ _ _ rfl (HO.out.alloc _) ⟨wr.heap.size, 0, none⟩ 1 1 [.int .i64 k] rfl rfl ?c1 ?c2 ?c3 ?c4 ?c5 ?_))
        case c1 =>
          intro j u hj
          rcases j with _ | j
          · simpa [Addr.add] using hj
          · simp at hj
        case c2 => intro u hu; simp at hu; subst hu; rfl
        case c3 => unfold maxLen; omega
        case c4 => omega
        case c5 => simp; omega
        intro v2 w2 hown2 hgrow _
        have HB2 := Lib.hid ((HB.out.alloc hsz _).trans (below_grown4 hgrow (by simp; omega) (own_base4 HO.out)))
        have HO2 := Lib.hid hown2
        clear hown2 hgrow hsz
        go_wp2
        go_roundg (64 - (k + 1))
        case measure => have := HG.out; omega
        case rel =>
          refine ⟨k + 1, by omega, rfl, by go_num, HB2.out, ?_⟩
          have e := HO2.out
          rw [HE.out, List.length_append, ticksI_length, HN.out, List.map_append]
          exact e
    · have hk64 : k = 64 := by omega
      subst hk64
      have HR := Lib.hid (ints_of_own HO.out (by rw [ticksI_length]; have := cntT_le m 64; omega))
      go_wp2
      go_ret
      exact ⟨_, rfl, HR.out, HB.out⟩

set_option maxRecDepth 100000 in
set_option maxHeartbeats 1000000 in
theorem refTicks_any (m : Nat) (w : World) (hm : m < 18446744073709551616) :
    Calls Try.prog 64 #[.int .u64 m] w (RetL (ticksI m 64) w) := by
  obtain ⟨i0, hi, hz0, hz1, hz2⟩ := info_parts Try.infoInt
  go_enter Try.func64, Try.ntmps64
  go_wp2_with fail
  have HB0 := Lib.hid (show Below w.heap.size w (w.alloc (Obj.cells #[] 3)) from (Below.refl _ _).alloc (Nat.le_refl _) _)
  have HO0 : Hid ((w.alloc (Obj.cells #[] 3)).ownsRow w.heap.size 3 1 (.slice (some ⟨w.heap.size, 0, none⟩) 0 0) 0 []) :=
    ⟨rfl, .inr ⟨w.heap.size, 0, #[], rfl, Nat.le_refl _, heap_alloc_new w _, Nat.le_refl _, Nat.zero_le _, rfl, rfl⟩⟩
  go_loopg [3, 4] 64 (fun g s i wr => TicksRel m w g s i wr)
  case atStart => exact ⟨0, Nat.zero_le _, rfl, rfl, HB0.out, HO0.out⟩
  case round =>
    obtain ⟨k, hk, hg, rfl, hbr, hown⟩ := hrel
    have HG := Lib.hid hg
    have HB := Lib.hid hbr
    have HO := Lib.hid hown
    clear hg hbr hown
    by_cases hlt : k < 64
    · have HH := Lib.hid (fun W => refHas_any m (k : Int) W hm)
      rw [hasB_nat hlt] at HH
      have hlen : cntT m k ≤ k := cntT_le m k
      rw [ticksI_length] at HO
      generalize hn : cntT m k = n at *
      have HN := Lib.hid hn
      clear hn
      cases hb : m.testBit k
      · have HE := Lib.hid (ticksI_no hb)
        rw [hb] at HH
        clear hb
        go_wp2_with (go_at_call 30; refine (HH.out _).mono ?_; rintro e w' ⟨rfl, rfl⟩)
        go_roundg (64 - (k + 1))
        case measure => have := HG.out; omega
        case rel => exact ⟨k + 1, by omega, rfl, by go_num, HB.out, by rw [HE.out, ticksI_length, HN.out]; exact HO.out⟩
      · have HE := Lib.hid (ticksI_yes hb)
        rw [hb] at HH
        clear hb
        have hsz := HB.out.size
        go_wp2_with (first
          | (go_at_call 30; refine (HH.out _).mono ?_; rintro e w' ⟨rfl, rfl⟩)
          | (at_builtin; refine wpList_append_own _ rfl _ _ 29 rfl w.heap.size 3 i0 (.int .i64 0) 1 8 Try.underlying29 hi hz0 hz1 hz2 rfl (by decide) _ _ _ rfl (HO.out.alloc _) ⟨wr.heap.size, 0, none⟩ 1 1 [.int .i64 k] rfl rfl ?c1 ?c2 ?c3 ?c4 ?c5 ?_))
        case c1 =>
          intro j u hj
          rcases j with _ | j
          · simpa [Addr.add] using hj
          · simp at hj
        case c2 => intro u hu; simp at hu; subst hu; rfl
        case c3 => unfold maxLen; omega
        case c4 => omega
        case c5 => simp; omega
        intro v2 w2 hown2 hgrow _
        have HB2 := Lib.hid ((HB.out.alloc hsz _).trans (below_grown4 hgrow (by simp; omega) (own_base4 HO.out)))
        have HO2 := Lib.hid hown2
        clear hown2 hgrow hsz
        go_wp2
        go_roundg (64 - (k + 1))
        case measure => have := HG.out; omega
        case rel =>
          refine ⟨k + 1, by omega, rfl, by go_num, HB2.out, ?_⟩
          have e := HO2.out
          rw [HE.out, List.length_append, ticksI_length, HN.out, List.map_append]
          exact e
    · have hk64 : k = 64 := by omega
      subst hk64
      have HR := Lib.hid (ints_of_own HO.out (by rw [ticksI_length]; have := cntT_le m 64; omega))
      go_wp2
      go_ret
      exact ⟨_, rfl, HR.out, HB.out⟩

theorem refCount_any (m : Nat) (w : World) (hm : m < 18446744073709551616) : Calls Try.prog 43 #[.int .u64 m] w (RetB (.int .i64 (cnt m)) w) := by
  have HT := Lib.hid (refTicks_any m w hm)
  go_enter Try.func43, Try.ntmps43
  go_wp2_with fail
  refine HT.out.mono ?_
  rintro e w1 ⟨v, rfl, hi, hb⟩
  obtain ⟨A, c, rfl, _, _⟩ := hi
  have HB := Lib.hid hb
  clear hb
  rw [ticksI_length]
  go_wp2
  go_ret
  exact ⟨rfl, HB.out⟩
end Go.Proofs.Ytkgkanmccaodfaa

/-
  Numbers alone: how many bits are set, by adding fields side by side.
  Conditions: the number is below 2^64.
-/
set_option linter.unusedVariables false
namespace Go.Proofs.Ytkgkanmccaodfaa

/-- Bits, from the lowest on. -/
def cntL : Nat → Nat → Nat
  | 0, _ => 0
  | k + 1, m => m % 2 + cntL k (m / 2)

theorem cntL_succ : ∀ (k m : Nat), cntL (k + 1) m = cntL k m + (m.testBit k).toNat
  | 0, m => by
    simp only [cntL, Nat.testBit_zero]
    rcases Nat.mod_two_eq_zero_or_one m with h | h <;> simp [h]
  | k + 1, m => by
    have ih := cntL_succ k (m / 2)
    rw [cntL, ih, Nat.testBit_succ]
    simp only [cntL]
    omega
theorem cntT_L (m k : Nat) : cntT m k = cntL k m := by
  induction k with
  | zero => rfl
  | succ k ih => rw [cntT_succ, cntL_succ, ih]
theorem cntL_byte (k m : Nat) : cntL (k + 8) m = cntL 8 (m % 256) + cntL k (m / 256) := by
  simp only [cntL, Nat.div_div_eq_div_mul, Nat.reduceMul]
  omega

theorem and_split {a k : Nat} (ha : a < 256) (hk : k < 256) (r K : Nat) : (a + 256 * r) &&& (k + 256 * K) = (a &&& k) + 256 * (r &&& K) := by
  have h1 := @Nat.and_div_two_pow (a + 256 * r) (k + 256 * K) 8
  have h2 := @Nat.and_mod_two_pow (a + 256 * r) (k + 256 * K) 8
  simp only [Nat.reducePow] at h1 h2
  have e1 : (a + 256 * r) / 256 = r := by omega
  have e2 : (k + 256 * K) / 256 = K := by omega
  have e3 : (a + 256 * r) % 256 = a := by omega
  have e4 : (k + 256 * K) % 256 = k := by omega
  rw [e1, e2] at h1
  rw [e3, e4] at h2
  omega

def S1 (m K : Nat) : Nat := (m / 2 &&& K) + (m &&& K)
def S2 (m K : Nat) : Nat := (m / 4 &&& K) + (m &&& K)
def S3 (m K : Nat) : Nat := (m / 16 + m) &&& K
def s1 (b : Nat) : Nat := (b / 2 &&& 85) + (b &&& 85)
def s2 (b : Nat) : Nat := (b / 4 &&& 51) + (b &&& 51)
def s3 (b : Nat) : Nat := (b / 16 + b) &&& 15

theorem d1 : ∀ b, b < 256 → ∀ e, e < 2 → (b / 2 + 128 * e) &&& 85 = b / 2 &&& 85 := by decide +kernel
theorem d2 : ∀ b, b < 256 → ∀ e, e < 4 → (b / 4 + 64 * e) &&& 51 = b / 4 &&& 51 := by decide +kernel
theorem d3 : ∀ b, b < 69 → ∀ e, e < 5 → (b / 16 + b + 16 * e) &&& 15 = (b / 16 + b) &&& 15 := by decide +kernel
theorem d4 : ∀ b, b < 256 → s1 b < 256 ∧ s2 (s1 b) < 69 ∧ s2 (s1 b) % 16 < 5 ∧ s3 (s2 (s1 b)) = cntL 8 b ∧ cntL 8 b < 9 := by decide +kernel

theorem S1_byte {b : Nat} (hb : b < 256) (r K : Nat) : S1 (b + 256 * r) (85 + 256 * K) = s1 b + 256 * S1 r K := by
  have e : (b + 256 * r) / 2 = (b / 2 + 128 * (r % 2)) + 256 * (r / 2) := by omega
  unfold S1 s1
  rw [e, and_split (by omega) (by decide), and_split hb (by decide), d1 b hb _ (by omega)]
  omega
theorem S2_byte {b : Nat} (hb : b < 256) (r K : Nat) : S2 (b + 256 * r) (51 + 256 * K) = s2 b + 256 * S2 r K := by
  have e : (b + 256 * r) / 4 = (b / 4 + 64 * (r % 4)) + 256 * (r / 4) := by omega
  unfold S2 s2
  rw [e, and_split (by omega) (by decide), and_split hb (by decide), d2 b hb _ (by omega)]
  omega
theorem S3_byte {b : Nat} (hb : b < 69) (r K : Nat) (hr : r % 16 < 5) : S3 (b + 256 * r) (15 + 256 * K) = s3 b + 256 * S3 r K := by
  have e : (b + 256 * r) / 16 + (b + 256 * r) = (b / 16 + b + 16 * (r % 16)) + 256 * (r / 16 + r) := by omega
  unfold S3 s3
  rw [e, and_split (by omega) (by decide), d3 b hb _ hr]

def kk (c : Nat) : Nat → Nat
  | 0 => 0
  | n + 1 => c + 256 * kk c n
def cB (m : Nat) : Nat := cntL 8 (m % 256)
theorem cB_lt (m : Nat) : cB m < 9 := (d4 _ (Nat.mod_lt _ (by decide))).2.2.2.2
theorem cntL_cB (k m : Nat) : cntL (k + 8) m = cB m + cntL k (m / 256) := cntL_byte k m
def dig : Nat → Nat → Nat
  | 0, _ => 0
  | n + 1, m => cB m + 256 * dig n (m / 256)
theorem dig_zero (m : Nat) : dig 0 m = 0 := rfl
theorem dig_succ (n m : Nat) : dig (n + 1) m = cB m + 256 * dig n (m / 256) := rfl

theorem fields : ∀ (n m : Nat), m < 256 ^ n → S2 (S1 m (kk 85 n)) (kk 51 n) % 16 < 5 ∧ S3 (S2 (S1 m (kk 85 n)) (kk 51 n)) (kk 15 n) = dig n m
  | 0, m, h => by
    have : m = 0 := by simpa using h
    subst this
    decide
  | n + 1, m, h => by
    have hr : m / 256 < 256 ^ n := by rw [Nat.pow_succ] at h; omega
    obtain ⟨i1, i2⟩ := fields n (m / 256) hr
    have e : m = m % 256 + 256 * (m / 256) := by omega
    have hb : m % 256 < 256 := by omega
    obtain ⟨q1, q2, q3, q4, _⟩ := d4 _ hb
    have k1 : kk 85 (n + 1) = 85 + 256 * kk 85 n := rfl
    have k2 : kk 51 (n + 1) = 51 + 256 * kk 51 n := rfl
    have k3 : kk 15 (n + 1) = 15 + 256 * kk 15 n := rfl
    have z : S2 (S1 m (kk 85 (n + 1))) (kk 51 (n + 1)) = s2 (s1 (m % 256)) + 256 * S2 (S1 (m / 256) (kk 85 n)) (kk 51 n) := by
      rw [k1, k2]
      conv => lhs; rw [e]
      rw [S1_byte hb, S2_byte q1]
    rw [z, k3, S3_byte q2 _ _ i1, i2, q4]
    exact ⟨by omega, rfl⟩

/-- Digits to the base 256. -/
def p8 (c0 c1 c2 c3 c4 c5 c6 c7 : Nat) : Nat := c0 + 256 * (c1 + 256 * (c2 + 256 * (c3 + 256 * (c4 + 256 * (c5 + 256 * (c6 + 256 * c7))))))
theorem p8_lt (B c0 c1 c2 c3 c4 c5 c6 c7 : Nat) (h0 : c0 ≤ B) (h1 : c1 ≤ B) (h2 : c2 ≤ B) (h3 : c3 ≤ B) (h4 : c4 ≤ B) (h5 : c5 ≤ B) (h6 : c6 ≤ B) (h7 : c7 ≤ B) :
    p8 c0 c1 c2 c3 c4 c5 c6 c7 ≤ 72340172838076673 * B := by
  unfold p8
  omega
theorem p8_add (a0 a1 a2 a3 a4 a5 a6 a7 b0 b1 b2 b3 b4 b5 b6 b7 : Nat) :
    p8 a0 a1 a2 a3 a4 a5 a6 a7 + p8 b0 b1 b2 b3 b4 b5 b6 b7 = p8 (a0 + b0) (a1 + b1) (a2 + b2) (a3 + b3) (a4 + b4) (a5 + b5) (a6 + b6) (a7 + b7) := by
  unfold p8
  omega
theorem p8_shift (c0 c1 c2 c3 c4 c5 c6 c7 : Nat) (h0 : c0 < 256) : p8 c0 c1 c2 c3 c4 c5 c6 c7 / 256 = p8 c1 c2 c3 c4 c5 c6 c7 0 := by
  unfold p8
  omega
theorem p8_low (c0 c1 c2 c3 c4 c5 c6 c7 : Nat) (h0 : c0 < 128) : p8 c0 c1 c2 c3 c4 c5 c6 c7 % 128 = c0 := by
  unfold p8
  omega

theorem sum8 (c0 c1 c2 c3 c4 c5 c6 c7 : Nat) (h0 : c0 < 9) (h1 : c1 < 9) (h2 : c2 < 9) (h3 : c3 < 9) (h4 : c4 < 9) (h5 : c5 < 9) (h6 : c6 < 9) (h7 : c7 < 9) :
    ∃ x4 x5 x6 : Nat, p8 c0 c1 c2 c3 c4 c5 c6 c7 < 1152921504606846976 ∧ p8 c0 c1 c2 c3 c4 c5 c6 c7 + p8 c0 c1 c2 c3 c4 c5 c6 c7 / 256 = x4 ∧
      x4 < 2305843009213693952 ∧ x4 + x4 / 65536 = x5 ∧ x5 < 4611686018427387904 ∧ x5 + x5 / 4294967296 = x6 ∧ x6 < 9223372036854775808 ∧ x6 % 128 = c0 + (c1 + (c2 + (c3 + (c4 + (c5 + (c6 + c7)))))) := by
  have b0 := p8_lt 8 c0 c1 c2 c3 c4 c5 c6 c7 (by omega) (by omega) (by omega) (by omega) (by omega) (by omega) (by omega) (by omega)
  have q1 := p8_shift c0 c1 c2 c3 c4 c5 c6 c7 (by omega)
  have s1 := p8_add c0 c1 c2 c3 c4 c5 c6 c7 c1 c2 c3 c4 c5 c6 c7 0
  have b1 := p8_lt 16 (c0 + c1) (c1 + c2) (c2 + c3) (c3 + c4) (c4 + c5) (c5 + c6) (c6 + c7) (c7 + 0) (by omega) (by omega) (by omega) (by omega) (by omega) (by omega) (by omega) (by omega)
  have q2 := p8_shift (c0 + c1) (c1 + c2) (c2 + c3) (c3 + c4) (c4 + c5) (c5 + c6) (c6 + c7) (c7 + 0) (by omega)
  have q3 := p8_shift (c1 + c2) (c2 + c3) (c3 + c4) (c4 + c5) (c5 + c6) (c6 + c7) (c7 + 0) 0 (by omega)
  have s2 := p8_add (c0 + c1) (c1 + c2) (c2 + c3) (c3 + c4) (c4 + c5) (c5 + c6) (c6 + c7) (c7 + 0) (c2 + c3) (c3 + c4) (c4 + c5) (c5 + c6) (c6 + c7) (c7 + 0) 0 0
  have b2 := p8_lt 32 (c0 + c1 + (c2 + c3)) (c1 + c2 + (c3 + c4)) (c2 + c3 + (c4 + c5)) (c3 + c4 + (c5 + c6)) (c4 + c5 + (c6 + c7)) (c5 + c6 + (c7 + 0)) (c6 + c7 + 0) (c7 + 0 + 0) (by omega) (by omega) (by omega) (by omega) (by omega) (by omega) (by omega) (by omega)
  have q4 := p8_shift (c0 + c1 + (c2 + c3)) (c1 + c2 + (c3 + c4)) (c2 + c3 + (c4 + c5)) (c3 + c4 + (c5 + c6)) (c4 + c5 + (c6 + c7)) (c5 + c6 + (c7 + 0)) (c6 + c7 + 0) (c7 + 0 + 0) (by omega)
  have q5 := p8_shift (c1 + c2 + (c3 + c4)) (c2 + c3 + (c4 + c5)) (c3 + c4 + (c5 + c6)) (c4 + c5 + (c6 + c7)) (c5 + c6 + (c7 + 0)) (c6 + c7 + 0) (c7 + 0 + 0) 0 (by omega)
  have q6 := p8_shift (c2 + c3 + (c4 + c5)) (c3 + c4 + (c5 + c6)) (c4 + c5 + (c6 + c7)) (c5 + c6 + (c7 + 0)) (c6 + c7 + 0) (c7 + 0 + 0) 0 0 (by omega)
  have q7 := p8_shift (c3 + c4 + (c5 + c6)) (c4 + c5 + (c6 + c7)) (c5 + c6 + (c7 + 0)) (c6 + c7 + 0) (c7 + 0 + 0) 0 0 0 (by omega)
  have s3 := p8_add (c0 + c1 + (c2 + c3)) (c1 + c2 + (c3 + c4)) (c2 + c3 + (c4 + c5)) (c3 + c4 + (c5 + c6)) (c4 + c5 + (c6 + c7)) (c5 + c6 + (c7 + 0)) (c6 + c7 + 0) (c7 + 0 + 0) (c4 + c5 + (c6 + c7)) (c5 + c6 + (c7 + 0)) (c6 + c7 + 0) (c7 + 0 + 0) 0 0 0 0
  have lo := p8_low (c0 + c1 + (c2 + c3) + (c4 + c5 + (c6 + c7))) (c1 + c2 + (c3 + c4) + (c5 + c6 + (c7 + 0))) (c2 + c3 + (c4 + c5) + (c6 + c7 + 0)) (c3 + c4 + (c5 + c6) + (c7 + 0 + 0)) (c4 + c5 + (c6 + c7) + 0) (c5 + c6 + (c7 + 0) + 0) (c6 + c7 + 0 + 0) (c7 + 0 + 0 + 0) (by omega)
  rw [← q1] at s1
  rw [← s1] at q2 b1
  have h65 : ∀ x : Nat, x / 256 / 256 = x / 65536 := fun x => by rw [Nat.div_div_eq_div_mul]
  have h43 : ∀ x : Nat, x / 256 / 256 / 256 / 256 = x / 4294967296 := fun x => by rw [Nat.div_div_eq_div_mul, Nat.div_div_eq_div_mul, Nat.div_div_eq_div_mul]
  rw [← q2, h65] at q3
  rw [← s1, ← q3] at s2
  rw [← s2] at q4 b2
  rw [← q4] at q5
  rw [← q5] at q6
  rw [← q6, h43] at q7
  rw [← s2, ← q7] at s3
  rw [← s3] at lo
  refine ⟨_, _, _, by omega, rfl, by omega, rfl, by omega, rfl, ?_, ?_⟩
  · have := Nat.div_le_self (p8 c0 c1 c2 c3 c4 c5 c6 c7 + p8 c0 c1 c2 c3 c4 c5 c6 c7 / 256 + (p8 c0 c1 c2 c3 c4 c5 c6 c7 + p8 c0 c1 c2 c3 c4 c5 c6 c7 / 256) / 65536) 4294967296
    generalize (p8 c0 c1 c2 c3 c4 c5 c6 c7 + p8 c0 c1 c2 c3 c4 c5 c6 c7 / 256 + (p8 c0 c1 c2 c3 c4 c5 c6 c7 + p8 c0 c1 c2 c3 c4 c5 c6 c7 / 256) / 65536) / 4294967296 = u at *
    omega
  · rw [lo]
    omega

theorem cntL_zero (m : Nat) : cntL 0 m = 0 := rfl
theorem cnt_bytes (m : Nat) : ∃ c0 c1 c2 c3 c4 c5 c6 c7 : Nat, (c0 < 9 ∧ c1 < 9 ∧ c2 < 9 ∧ c3 < 9 ∧ c4 < 9 ∧ c5 < 9 ∧ c6 < 9 ∧ c7 < 9) ∧
    dig 8 m = p8 c0 c1 c2 c3 c4 c5 c6 c7 ∧ cnt m = c0 + (c1 + (c2 + (c3 + (c4 + (c5 + (c6 + c7)))))) := by
  have e : cnt m = cntL 64 m := cntT_L m 64
  rw [e]
  have a0 := cntL_cB 56 m
  have a1 := cntL_cB 48 (m / 256)
  have a2 := cntL_cB 40 (m / 256 / 256)
  have a3 := cntL_cB 32 (m / 256 / 256 / 256)
  have a4 := cntL_cB 24 (m / 256 / 256 / 256 / 256)
  have a5 := cntL_cB 16 (m / 256 / 256 / 256 / 256 / 256)
  have a6 := cntL_cB 8 (m / 256 / 256 / 256 / 256 / 256 / 256)
  have a7 := cntL_cB 0 (m / 256 / 256 / 256 / 256 / 256 / 256 / 256)
  rw [cntL_zero] at a7
  have b0 := dig_succ 7 m
  have b1 := dig_succ 6 (m / 256)
  have b2 := dig_succ 5 (m / 256 / 256)
  have b3 := dig_succ 4 (m / 256 / 256 / 256)
  have b4 := dig_succ 3 (m / 256 / 256 / 256 / 256)
  have b5 := dig_succ 2 (m / 256 / 256 / 256 / 256 / 256)
  have b6 := dig_succ 1 (m / 256 / 256 / 256 / 256 / 256 / 256)
  have b7 := dig_succ 0 (m / 256 / 256 / 256 / 256 / 256 / 256 / 256)
  rw [dig_zero] at b7
  refine ⟨cB m, cB (m / 256), cB (m / 256 / 256), cB (m / 256 / 256 / 256), cB (m / 256 / 256 / 256 / 256), cB (m / 256 / 256 / 256 / 256 / 256), cB (m / 256 / 256 / 256 / 256 / 256 / 256), cB (m / 256 / 256 / 256 / 256 / 256 / 256 / 256), ⟨cB_lt _, cB_lt _, cB_lt _, cB_lt _, cB_lt _, cB_lt _, cB_lt _, cB_lt _⟩, ?_, ?_⟩
  · rw [b0, b1, b2, b3, b4, b5, b6, b7]
    unfold p8
    rw [Nat.mul_zero, Nat.add_zero]
  · simp only [Nat.reduceAdd] at a0 a1 a2 a3 a4 a5 a6 a7
    rw [a0, a1, a2, a3, a4, a5, a6, a7]
    rfl

/-- All of it. -/
theorem ones_nat (m : Nat) (hm : m < 18446744073709551616) : ∃ x1 x2 x3 x4 x5 x6 : Nat,
    (m / 2 &&& 6148914691236517205) + (m &&& 6148914691236517205) = x1 ∧ (x1 / 4 &&& 3689348814741910323) + (x1 &&& 3689348814741910323) = x2 ∧
    (x2 / 16 + x2) &&& 1085102592571150095 = x3 ∧ x3 < 1152921504606846976 ∧ x3 + x3 / 256 = x4 ∧ x4 < 2305843009213693952 ∧ x4 + x4 / 65536 = x5 ∧ x5 < 4611686018427387904 ∧
    x5 + x5 / 4294967296 = x6 ∧ x6 < 9223372036854775808 ∧ x6 % 128 = cnt m := by
  have hf := (fields 8 m (by simpa using hm)).2
  have k1 : kk 85 8 = 6148914691236517205 := by decide
  have k2 : kk 51 8 = 3689348814741910323 := by decide
  have k3 : kk 15 8 = 1085102592571150095 := by decide
  rw [k1, k2, k3] at hf
  obtain ⟨c0, c1, c2, c3, c4, c5, c6, c7, ⟨h0, h1, h2, h3, h4, h5, h6, h7⟩, hd, hc⟩ := cnt_bytes m
  obtain ⟨x4, x5, x6, g1, g2, g3, g4, g5, g6, g7, g8⟩ := sum8 c0 c1 c2 c3 c4 c5 c6 c7 h0 h1 h2 h3 h4 h5 h6 h7
  rw [← hd] at g1 g2
  rw [← hc] at g8
  exact ⟨_, _, dig 8 m, x4, x5, x6, rfl, rfl, hf, g1, g2, g3, g4, g5, g6, g7, g8⟩
end Go.Proofs.Ytkgkanmccaodfaa

/-
  math/bits.OnesCount64, and Count, Lowest and Highest of the program.
  Conditions: the numbers are of their kinds.
-/
set_option linter.unusedVariables false
namespace Go.Proofs.Ytkgkanmccaodfaa
open Go.RowKit

theorem wrapU (n : Nat) (h : n < 18446744073709551616) : IntKind.u64.wrap (n : Int) = (n : Int) := by
  rw [IntKind.wrap_u64]; omega
theorem andU (a b : Nat) (ha : a < 18446744073709551616) (hb : b < 18446744073709551616) : bits .and .u64 (a : Int) (b : Int) = ((a &&& b : Nat) : Int) := bits_and_u64_nat a b ha hb
theorem mask127 (x : Nat) (h : x < 9223372036854775808) : bits .and .i64 (x : Int) 127 = ((x % 128 : Nat) : Int) := by
  have h1 : (BitVec.ofInt 64 (x : Int)).toNat = x := by
    rw [BitVec.ofInt_natCast, BitVec.toNat_ofNat]; exact Nat.mod_eq_of_lt (by omega)
  have h2 : (BitVec.ofInt 64 (127 : Int)).toNat = 127 := by decide
  show IntKind.i64.wrap ((BitVec.ofInt 64 (x : Int) &&& BitVec.ofInt 64 127).toNat : Int) = _
  have h3 : x &&& 127 = x % 128 := Nat.and_two_pow_sub_one_eq_mod x 7
  rw [BitVec.toNat_and, h1, h2, h3]
  exact IntWalk.i64_in _ (by omega)

structure Ones (m : Nat) (a1 a2 x1 b1 b2 x2 y x3 x4 x5 x6 : Int) : Prop where
  e1 : bits .and .u64 ((m : Int) / 2) 6148914691236517205 = a1
  e2 : bits .and .u64 (m : Int) 6148914691236517205 = a2
  e3 : IntKind.u64.wrap (a1 + a2) = x1
  e4 : bits .and .u64 (x1 / 4) 3689348814741910323 = b1
  e5 : bits .and .u64 x1 3689348814741910323 = b2
  e6 : IntKind.u64.wrap (b1 + b2) = x2
  e7 : IntKind.u64.wrap (x2 / 16 + x2) = y
  e8 : bits .and .u64 y 1085102592571150095 = x3
  e9 : IntKind.u64.wrap (x3 + x3 / 256) = x4
  e10 : IntKind.u64.wrap (x4 + x4 / 65536) = x5
  e11 : IntKind.u64.wrap (x5 + x5 / 4294967296) = x6
  e12 : IntKind.i64.wrap x6 = x6
  e13 : bits .and .i64 x6 127 = (cnt m : Int)

theorem and_le_r (a K : Nat) : a &&& K ≤ K := Nat.and_le_right

theorem ones_words (m : Nat) (hm : m < 18446744073709551616) : ∃ a1 a2 x1 b1 b2 x2 y x3 x4 x5 x6 : Int, Ones m a1 a2 x1 b1 b2 x2 y x3 x4 x5 x6 := by
  obtain ⟨x1, x2, x3, x4, x5, x6, h1, h2, h3, g3, h4, g4, h5, g5, h6, g6, h7⟩ := ones_nat m hm
  have l1 := and_le_r (m / 2) 6148914691236517205
  have l2 := and_le_r m 6148914691236517205
  have l3 := and_le_r (x1 / 4) 3689348814741910323
  have l4 := and_le_r x1 3689348814741910323
  have p1 := andU (m / 2) 6148914691236517205 (by omega) (by decide)
  have p2 := andU m 6148914691236517205 hm (by decide)
  have p3 := andU (x1 / 4) 3689348814741910323 (by omega) (by decide)
  have p4 := andU x1 3689348814741910323 (by omega) (by decide)
  have p5 := andU (x2 / 16 + x2) 1085102592571150095 (by omega) (by decide)
  refine ⟨_, _, x1, _, _, x2, ((x2 / 16 + x2 : Nat) : Int), x3, x4, x5, x6, p1, p2, ?_, p3, p4, ?_, ?_, ?_, ?_, ?_, ?_, ?_, ?_⟩
  · rw [← h1]; exact wrapU _ (by omega)
  · rw [← h2]; exact wrapU _ (by omega)
  · exact wrapU (x2 / 16 + x2) (by omega)
  · rw [← h3]; exact p5
  · rw [← h4]; exact wrapU (x3 + x3 / 256) (by omega)
  · rw [← h5]; exact wrapU (x4 + x4 / 65536) (by omega)
  · rw [← h6]; exact wrapU (x5 + x5 / 4294967296) (by omega)
  · exact IntWalk.i64_in _ (by omega)
  · rw [mask127 _ g6, h7]

set_option maxHeartbeats 1000000 in
theorem ones_any (m : Nat) (w : World) (hm : m < 18446744073709551616) : Calls Try.prog 88 #[.int .u64 m] w (Ret (.int .i64 (cnt m)) w) := by
  obtain ⟨a1, a2, x1, b1, b2, x2, y, x3, x4, x5, x6, e1, e2, e3, e4, e5, e6, e7, e8, e9, e10, e11, e12, e13⟩ := ones_words m hm
  generalize cnt m = c at *
  go_enter Try.func88, Try.ntmps88
  go_wp2
  go_ret
  exact ⟨rfl, rfl⟩

set_option maxHeartbeats 1000000 in
theorem count_any (m : Nat) (w : World) (hm : m < 18446744073709551616) : Calls Try.prog 74 #[.int .u64 m] w (Ret (.int .i64 (cnt m)) w) := by
  have HO := Lib.hid (ones_any m w hm)
  go_enter Try.func74, Try.ntmps74
  go_wp2_with (go_at_call 88; refine HO.out.mono ?_; rintro e w' ⟨rfl, rfl⟩)
  go_ret
  exact ⟨rfl, rfl⟩

/-- How many of them a k asks for. -/
def takN (m : Nat) (k : Int) : Nat := (min (max k 0) (cnt m)).toNat
theorem takN_le (m : Nat) (k : Int) : takN m k ≤ cnt m := by unfold takN; omega
theorem high_lt (m k : Nat) : highN m k < 18446744073709551616 := setP_lt _
theorem low_lt (m k : Nat) : lowN m k < 18446744073709551616 := setP_lt _

theorem andNot_word (a b : Nat) (ha : a < 18446744073709551616) (hb : b < 18446744073709551616) : bits .andNot .u64 (a : Int) (b : Int) = (lessN a b : Int) := by
  rw [u64_andNot_nat a b ha hb]
  congr 1
  have h1 : a &&& (18446744073709551615 - b) < 18446744073709551616 := Nat.lt_of_le_of_lt Nat.and_le_left ha
  refine eq_setP h1 (fun j hj => ?_)
  have e : 18446744073709551615 - b = 2 ^ 64 - (b + 1) := by rw [two64]; omega
  rw [Nat.testBit_and, e, Nat.testBit_two_pow_sub_succ (by rw [two64]; exact hb)]
  simp [hj]
theorem clear_word {m i : Nat} (hi : i < cnt m) : bits .and .u64 (highN m i : Int) (IntKind.u64.wrap ((highN m i : Int) - 1)) = (highN m (i + 1) : Int) := by
  have h0 : highN m i ≠ 0 := by
    obtain ⟨k, hk, hb, hc⟩ := tick_ex hi
    exact ne_zero_of (j := k) (by unfold highN; rw [setP_bit]; simp [hk, hb, hc])
  have h1 := high_lt m i
  have e : IntKind.u64.wrap ((highN m i : Int) - 1) = ((highN m i - 1 : Nat) : Int) := by rw [IntKind.wrap_u64]; omega
  rw [e, bits_and_u64_nat _ _ h1 (by omega), high_clear hi]

def LowRel (m t : Nat) (s i : Value) : Prop := ∃ j : Nat, j ≤ t ∧ i = .int .i64 j ∧ s = .int .u64 (highN m j)

/-- What Highest leaves. -/
def leftN (m : Nat) (k : Int) : Nat := cnt m - takN m k
end Go.Proofs.Ytkgkanmccaodfaa

/-
  Splits and Cores of program and document.
  Conditions: the slice reads as places.
-/
set_option linter.unusedVariables false
namespace Go.Proofs.Ytkgkanmccaodfaa
open Go.RowKit Go.Sort

theorem splits_snoc {l : List Pl} {k : Nat} {x : Pl} (hx : l[k]? = some x) : splitsN (l.take (k + 1)) = splitsN (l.take k) + (!decide (x.ps.length = 0)).toNat := by
  rw [List.take_add_one, hx]
  unfold splitsN
  rw [Option.toList_some, List.countP_append, List.countP_singleton]
  cases decide (x.ps.length = 0) <;> rfl
theorem splits_le (l : List Pl) : splitsN l ≤ l.length := List.countP_le_length

set_option maxRecDepth 100000 in
set_option maxHeartbeats 2000000 in
theorem splits_any (f : Int) (m : Nat) (v : Value) (l : List Pl) (w : World) (h : PlsAt w v l) (hl : l.length ≤ 1000) :
    Calls Try.prog 58 #[planA f m v] w (RetB (.int .i64 (splitsN l : Nat)) w) := by
  obtain ⟨A, cA, rfl, hlc, hcm⟩ := h.form
  have HL := Lib.hid h
  obtain ⟨w1, P, hw1, hP, hPl, hb1, hbox⟩ := box_any w #[.int .i64 f, .int .u32 m, .slice A l.length cA] 25
  obtain ⟨n, hn⟩ : ∃ n, l.length = n := ⟨_, rfl⟩
  rw [hn] at HL hlc hl hw1 hbox ⊢
  have HN := Lib.hid hn
  have HB1 := Lib.hid hb1
  have HBOX := Lib.hid hbox
  obtain ⟨r0, r1, r2⟩ := three_heads hbox
  clear h hn hb1 hbox
  unfold planA
  have HW := Lib.hid (fun A n d x w => isWhole_any Any A n d x w)
  go_enter Try.func58, Try.ntmps58
  go_wp2_with fail
  clear hw1 hP r0 r1 r2
  go_loopg [3, 5, 9] n (fun gg s3 _ s9 wr => ∃ k : Nat, k ≤ n ∧ gg = n - k ∧ s9 = .int .i64 k ∧ s3 = .int .i64 (splitsN (l.take k) : Nat) ∧ Below w1.heap.size w1 wr)
  case atStart => exact ⟨0, Nat.zero_le _, by omega, rfl, rfl, Below.refl _ _⟩
  case round =>
    obtain ⟨k, hk, hg, rfl, rfl, hbw⟩ := hrel
    have HBW := Lib.hid hbw
    have HB := Lib.hid (HB1.out.trans (hbw.mono HB1.out.size))
    have HG := Lib.hid hg
    have hPl2 : P < wr.heap.size := Nat.lt_of_lt_of_le hPl hbw.size
    have HBX := Lib.hid ((hbw.block P hPl).trans HBOX.out)
    obtain ⟨r0, r1, r2⟩ := three_heads HBX.out
    have HLR := Lib.hid (HL.out.keep HB.out)
    clear hbw hg
    by_cases hlt : k < n
    · have hk0 : True := trivial
      have hltz : (k : Int) < (n : Int) := by omega
      obtain ⟨x, hx⟩ := exP_at (xs := l) (k := k) (by rw [HN.out]; exact hlt)
      obtain ⟨b, off, B, d, hA, hbl, _, ⟨c0, c1, c2, c3⟩, hps⟩ := HLR.out.at_ hx
      subst hA
      simp only at c0 c1 c2 c3
      have HX := Lib.hid hx
      have HPS := Lib.hid hps
      clear hx hps
      obtain ⟨w2, N, hw2, hN, hNl, hb2, hxbox⟩ := box_any wr #[.int .i64 x.u, .int .i64 x.s, .int .i64 x.c, .slice B x.ps.length d] 38
      have HB2 := Lib.hid hb2
      have HXB := Lib.hid hxbox
      obtain ⟨x0, x1, x2, x3⟩ := four_heads hxbox
      obtain ⟨p0, p1, p2⟩ := three_heads (keep_block HBX.out hb2)
      clear hb2 hxbox
      have HS := Lib.hid (splits_snoc HX.out)
      have hq : splitsN (l.take k) ≤ k := Nat.le_trans (splits_le _) (by rw [List.length_take]; omega)
      generalize splitsN (l.take k) = q at *
      cases hz : decide (x.ps.length = 0) with
      | true =>
        have HC := Lib.hid (fun w => HW.out (B) x.ps.length d x w)
        rw [hz] at HC HS
        unfold plA at HC
        clear hz
        go_wp2_with fail
        refine (HC.out _).mono ?_
        rintro e w3 ⟨rfl, hb3⟩
        have HB3 := Lib.hid (HBW.out.trans ((HB2.out.mono HBW.out.size).trans (hb3.mono (Nat.le_trans HBW.out.size HB2.out.size))))
        clear hb3
        go_wp2_with fail
        go_roundg (n - (k + 1))
        case measure => have := HG.out; omega
        case rel => exact ⟨k + 1, by omega, rfl, by go_num, by rw [HS.out]; rfl, HB3.out⟩
      | false =>
        have HC := Lib.hid (fun w => HW.out (B) x.ps.length d x w)
        rw [hz] at HC HS
        unfold plA at HC
        clear hz
        go_wp2_with fail
        refine (HC.out _).mono ?_
        rintro e w3 ⟨rfl, hb3⟩
        have HB3 := Lib.hid (HBW.out.trans ((HB2.out.mono HBW.out.size).trans (hb3.mono (Nat.le_trans HBW.out.size HB2.out.size))))
        clear hb3
        go_wp2_with fail
        go_roundg (n - (k + 1))
        case measure => have := HG.out; omega
        case rel => exact ⟨k + 1, by omega, rfl, by go_num, by rw [HS.out]; go_num, HB3.out⟩
    · have hkn : k = n := by omega
      have hltz : ¬ (k : Int) < (n : Int) := by omega
      have HE := Lib.hid (show splitsN (l.take k) = splitsN l by rw [List.take_of_length_le (by rw [HN.out]; omega)])
      generalize splitsN (l.take k) = q at *
      clear hkn
      go_wp2
      go_ret
      exact ⟨ret_natU HE.out, HB.out⟩

set_option maxRecDepth 100000 in
set_option maxHeartbeats 2000000 in
theorem refSplits_any (f : Int) (m : Nat) (v : Value) (l : List Pl) (w : World) (h : PlsAt w v l) (hl : l.length ≤ 1000) :
    Calls Try.prog 24 #[planA f m v] w (RetB (.int .i64 (splitsN l : Nat)) w) := by
  obtain ⟨A, cA, rfl, hlc, hcm⟩ := h.form
  have HL := Lib.hid h
  obtain ⟨w1, P, hw1, hP, hPl, hb1, hbox⟩ := box_any w #[.int .i64 f, .int .u32 m, .slice A l.length cA] 25
  obtain ⟨n, hn⟩ : ∃ n, l.length = n := ⟨_, rfl⟩
  rw [hn] at HL hlc hl hw1 hbox ⊢
  have HN := Lib.hid hn
  have HB1 := Lib.hid hb1
  have HBOX := Lib.hid hbox
  obtain ⟨r0, r1, r2⟩ := three_heads hbox
  clear h hn hb1 hbox
  unfold planA
  go_enter Try.func24, Try.ntmps24
  go_wp2_with fail
  clear hw1 hP r0 r1 r2
  go_loopg [3, 4] n (fun gg s3 s4 wr => ∃ k : Nat, k ≤ n ∧ gg = n - k ∧ s4 = .int .i64 k ∧ s3 = .int .i64 (splitsN (l.take k) : Nat) ∧ Below w1.heap.size w1 wr)
  case atStart => exact ⟨0, Nat.zero_le _, by omega, rfl, rfl, Below.refl _ _⟩
  case round =>
    obtain ⟨k, hk, hg, rfl, rfl, hbw⟩ := hrel
    have HBW := Lib.hid hbw
    have HB := Lib.hid (HB1.out.trans (hbw.mono HB1.out.size))
    have HG := Lib.hid hg
    have hPl2 : P < wr.heap.size := Nat.lt_of_lt_of_le hPl hbw.size
    have HBX := Lib.hid ((hbw.block P hPl).trans HBOX.out)
    obtain ⟨r0, r1, r2⟩ := three_heads HBX.out
    have HLR := Lib.hid (HL.out.keep HB.out)
    clear hbw hg
    by_cases hlt : k < n
    · have hk0 : True := trivial
      have hltz : (k : Int) < (n : Int) := by omega
      obtain ⟨x, hx⟩ := exP_at (xs := l) (k := k) (by rw [HN.out]; exact hlt)
      obtain ⟨b, off, B, d, hA, hbl, _, ⟨c0, c1, c2, c3⟩, hps⟩ := HLR.out.at_ hx
      subst hA
      simp only at c0 c1 c2 c3
      have HX := Lib.hid hx
      have HPS := Lib.hid hps
      clear hx hps
      have HS := Lib.hid (splits_snoc HX.out)
      have hq : splitsN (l.take k) ≤ k := Nat.le_trans (splits_le _) (by rw [List.length_take]; omega)
      generalize splitsN (l.take k) = q at *
      generalize x.ps.length = z at *
      cases hz : decide (z = 0) with
      | true =>
        rw [hz] at HS
        have hz0 : z = 0 := of_decide_eq_true hz
        subst hz0
        clear hz
        go_wp2_with fail
        go_roundg (n - (k + 1))
        case measure => have := HG.out; omega
        case rel => exact ⟨k + 1, by omega, rfl, by go_num, by rw [HS.out]; rfl, HBW.out⟩
      | false =>
        rw [hz] at HS
        have hz0 : 0 < z := Nat.pos_of_ne_zero (of_decide_eq_false hz)
        have hz1 : (0 : Int) < (z : Int) := by omega
        clear hz
        go_wp2_with fail
        go_roundg (n - (k + 1))
        case measure => have := HG.out; omega
        case rel => exact ⟨k + 1, by omega, rfl, by go_num, by rw [HS.out]; go_num, HBW.out⟩
    · have hkn : k = n := by omega
      have hltz : ¬ (k : Int) < (n : Int) := by omega
      have HE := Lib.hid (show splitsN (l.take k) = splitsN l by rw [List.take_of_length_le (by rw [HN.out]; omega)])
      generalize splitsN (l.take k) = q at *
      clear hkn
      go_wp2
      go_ret
      exact ⟨ret_natU HE.out, HB.out⟩
end Go.Proofs.Ytkgkanmccaodfaa

/-
  Cores, Wants and Wholes of program and document.
  Conditions: the slice reads as places.
-/
set_option linter.unusedVariables false
namespace Go.Proofs.Ytkgkanmccaodfaa
open Go.RowKit Go.Sort

theorem spans_zero : ∀ n : Nat, spansCells (List.replicate n ((0 : Int), (0 : Int))) = List.replicate (n * 2) (.int .i64 0)
  | 0 => rfl
  | n + 1 => by rw [List.replicate_succ, spansCells_cons, spans_zero n, show (n + 1) * 2 = n * 2 + 1 + 1 by omega, List.replicate_succ, List.replicate_succ]
theorem made_two (m : Nat) : madeCells #[.int .i64 0, .int .i64 0] m = (List.replicate m (Value.int .i64 0)).toArray := by
  apply Array.ext
  · simp [madeCells]
  · intro i h1 h2
    have h4 : i % 2 = 0 ∨ i % 2 = 1 := by omega
    rcases h4 with h | h <;> simp [madeCells, h]
theorem mk_wants (W : World) (n : Nat) (h : n ≤ 1200000) : (Instr.makeSlice 68 (.int .i64 (n : Int)) (.int .i64 (n : Int))).run Try.prog W = .ok (.slice (some ⟨W.heap.size, 0, none⟩) n n) (W.alloc (.cells (spansCells (List.replicate n ((0 : Int), (0 : Int)))).toArray 35)) := by
  obtain ⟨i, hi, e⟩ := Option.map_eq_some_iff.1 Try.infoSpan
  simp only [Prod.mk.injEq] at e
  obtain ⟨e1, e2, e3⟩ := e
  have hr := run_make (P := Try.prog) W 68 35 i (.agg #[.int .i64 0, .int .i64 0]) Try.underlying68 hi e1 .i64 .i64 n n (by omega) (Int.le_refl _) (by rw [e3]; omega) (by omega)
  rw [hr, e2]
  simp only [Int.toNat_natCast]
  rw [show (Value.agg #[.int .i64 0, .int .i64 0]).cells = #[.int .i64 0, .int .i64 0] from rfl, made_two, spans_zero]
theorem own_made (W : World) (base e size n : Nat) (xs : List Value) (hx : xs.length = n * size) (hb : base ≤ W.heap.size) (hn : n ≤ 1200000) :
    (W.alloc (.cells xs.toArray e)).ownsRow base e size (.slice (some ⟨W.heap.size, 0, none⟩) n n) n xs :=
  ⟨hx, .inr ⟨W.heap.size, n, xs.toArray, rfl, hb, heap_alloc_new W _, Nat.le_refl _, by unfold maxLen; omega, by simpa using hx, by rw [← hx]; simp⟩⟩
/-- Under way: the first k are right. -/
theorem same_till {α : Type} {D L : List α} {k : Nat} {x : α} (h : ∀ (j : Nat), j < k → D[j]? = L[j]?) (hk : L[k]? = some x) (hD : k < D.length) : ∀ (j : Nat), j < k + 1 → (D.set k x)[j]? = L[j]? := fun j hj => by
  by_cases e : j = k
  · subst e
    rw [List.getElem?_set_self hD, hk]
  · rw [List.getElem?_set_ne (fun h => e h.symm)]
    exact h j (by omega)
theorem same_end {α : Type} {D L : List α} (h : ∀ (j : Nat), j < L.length → D[j]? = L[j]?) (hl : D.length = L.length) : D = L := by
  apply List.ext_getElem?
  intro j
  by_cases hj : j < L.length
  · exact h j hj
  · rw [List.getElem?_eq_none (by omega), List.getElem?_eq_none (by omega)]
theorem wantsT_length (l : List Pl) : (wantsT l).length = l.length := List.length_map _
theorem wants_snoc {l : List Pl} {k : Nat} {x : Pl} (hx : l[k]? = some x) : wantsT (l.take (k + 1)) = wantsT (l.take k) ++ [(x.u, x.s)] := by
  rw [List.take_add_one, hx]
  unfold wantsT
  rw [Option.toList_some, List.map_append]
  rfl
theorem wholes_snoc {l : List Pl} {k : Nat} {x : Pl} {c : Int} (hx : l[k]? = some x) : wholesT (l.take (k + 1)) c = wholesT (l.take k) c ++ (if wholeB c x = true then [(x.u, x.s)] else []) := by
  rw [List.take_add_one, hx]
  unfold wholesT
  rw [Option.toList_some, List.filter_append, List.map_append, List.filter_cons]
  cases wholeB c x <;> rfl
theorem wholes_le (l : List Pl) (c : Int) : (wholesT l c).length ≤ l.length := by
  unfold wholesT
  rw [List.length_map]
  exact List.length_filter_le _ _

/-! ### Cores -/
set_option maxRecDepth 100000 in
set_option maxHeartbeats 1000000 in
theorem cores_any (f : Int) (m : Nat) (v : Value) (w : World) (hm : m < 4294967296) :
    Calls Try.prog 49 #[planA f m v] w (RetL (ticksI m 64) w) := by
  have hconv := conv32 m hm
  obtain ⟨w1, P, hw1, hP, hPl, hb1, hbox⟩ := box_any w #[.int .i64 f, .int .u32 m, v] 25
  have HB1 := Lib.hid hb1
  obtain ⟨r0, r1, r2⟩ := three_heads hbox
  have HT := Lib.hid (fun W => ticks_any m W (by omega) (fun W => count_any m W (by omega)))
  clear hb1 hbox
  unfold planA
  go_enter Try.func49, Try.ntmps49
  go_wp2_with fail
  refine (HT.out _).mono ?_
  rintro e w2 ⟨v2, rfl, hi, hb2⟩
  have HI := Lib.hid hi
  have HB2 := Lib.hid (HB1.out.trans (hb2.mono HB1.out.size))
  clear hi hb2
  go_wp2_with fail
  go_ret
  exact ⟨_, rfl, HI.out, HB2.out⟩

def CoresRel (m : Nat) (w : World) (g : Nat) (s i : Value) (wr : World) : Prop :=
  ∃ k : Nat, k ≤ 16 ∧ g = 16 - k ∧ i = .int .i64 k ∧ Below w.heap.size w wr ∧ wr.ownsRow w.heap.size 3 1 s (ticksI m k).length ((ticksI m k).map (Value.int .i64))

set_option maxRecDepth 100000 in
set_option maxHeartbeats 1000000 in
theorem refCores_any (f : Int) (m : Nat) (v : Value) (w : World) (hm : m < 4294967296) :
    Calls Try.prog 10 #[planA f m v] w (RetL (ticksI m 16) w) := by
  obtain ⟨i0, hi, hz0, hz1, hz2⟩ := info_parts Try.infoInt
  have HHC := Lib.hid (fun c W => refHasC_any f m v c W hm)
  unfold planA at HHC
  obtain ⟨w1, P, hw1, hP, hPl, hb1, hbox⟩ := box_any w #[.int .i64 f, .int .u32 m, v] 25
  have HB1 := Lib.hid hb1
  have HBOX := Lib.hid hbox
  obtain ⟨r0, r1, r2⟩ := three_heads hbox
  clear hb1 hbox
  unfold planA
  go_enter Try.func10, Try.ntmps10
  go_wp2_with fail
  clear hw1 hP r0 r1 r2
  have HB0 := Lib.hid (show Below w1.heap.size w1 (w1.alloc (Obj.cells #[] 3)) from (Below.refl _ _).alloc (Nat.le_refl _) _)
  have HO0 : Hid ((w1.alloc (Obj.cells #[] 3)).ownsRow w1.heap.size 3 1 (.slice (some ⟨w1.heap.size, 0, none⟩) 0 0) 0 []) :=
    ⟨rfl, .inr ⟨w1.heap.size, 0, #[], rfl, Nat.le_refl _, heap_alloc_new w1 _, Nat.le_refl _, Nat.zero_le _, rfl, rfl⟩⟩
  go_loopg [3, 4] 16 (fun g s i wr => CoresRel m w1 g s i wr)
  case atStart => exact ⟨0, Nat.zero_le _, rfl, rfl, HB0.out, HO0.out⟩
  case round =>
    obtain ⟨k, hk, hg, rfl, hbw, hown⟩ := hrel
    have HG := Lib.hid hg
    have HBW := Lib.hid hbw
    have HO := Lib.hid hown
    have hPl2 : P < wr.heap.size := Nat.lt_of_lt_of_le hPl hbw.size
    have HBX := Lib.hid ((hbw.block P hPl).trans HBOX.out)
    obtain ⟨r0, r1, r2⟩ := three_heads HBX.out
    clear hg hbw hown
    by_cases hlt : k < 16
    · have HH := Lib.hid (fun W => HHC.out (k : Int) W)
      rw [hasC_nat hlt] at HH
      have hlen : cntT m k ≤ k := cntT_le m k
      rw [ticksI_length] at HO
      generalize hn : cntT m k = n at *
      have HN := Lib.hid hn
      clear hn
      cases hb : m.testBit k
      · have HE := Lib.hid (ticksI_no hb)
        rw [hb] at HH
        clear hb
        go_wp2_with fail
        refine (HH.out _).mono ?_
        rintro e w' ⟨rfl, hb⟩
        have HB2 := Lib.hid (HBW.out.trans (hb.mono HBW.out.size))
        have HO2 := Lib.hid (own_below5 HO.out hb)
        clear hb
        go_wp2_with fail
        go_roundg (16 - (k + 1))
        case measure => have := HG.out; omega
        case rel => exact ⟨k + 1, by omega, rfl, by go_num, HB2.out, by rw [HE.out, ticksI_length, HN.out]; exact HO2.out⟩
      · have HE := Lib.hid (ticksI_yes hb)
        rw [hb] at HH
        clear hb
        go_wp2_with fail
        refine (HH.out _).mono ?_
        rintro e w3 ⟨rfl, hb⟩
        have HB2 := Lib.hid (HBW.out.trans (hb.mono HBW.out.size))
        have HO2 := Lib.hid (own_below5 HO.out hb)
        have hsz := HB2.out.size
        clear hb
        go_wp2_with (at_builtin; refine wpList_append_own _ rfl _ _ 29 rfl w1.heap.size 3 i0 (.int .i64 0) 1 8 Try.underlying29 hi hz0 hz1 hz2 rfl (by decide) _ _ _ rfl (HO2.out.alloc _) ⟨w3.heap.size, 0, none⟩ 1 1 [.int .i64 k] rfl rfl ?c1 ?c2 ?c3 ?c4 ?c5 ?_)
        case c1 =>
          intro j u hj
          rcases j with _ | j
          · simpa [Addr.add] using hj
          · simp at hj
        case c2 => intro u hu; simp at hu; subst hu; rfl
        case c3 => unfold maxLen; omega
        case c4 => omega
        case c5 => simp; omega
        intro v2 w2 hown2 hgrow _
        have HB3 := Lib.hid ((HB2.out.alloc hsz _).trans (below_grown4 hgrow (by simp; omega) (own_base4 HO2.out)))
        have HO3 := Lib.hid hown2
        clear hown2 hgrow hsz
        go_wp2
        go_roundg (16 - (k + 1))
        case measure => have := HG.out; omega
        case rel =>
          refine ⟨k + 1, by omega, rfl, by go_num, HB3.out, ?_⟩
          have e := HO3.out
          rw [HE.out, List.length_append, ticksI_length, HN.out, List.map_append]
          exact e
    · have hk16 : k = 16 := by omega
      subst hk16
      have HR := Lib.hid (ints_of_own HO.out (by rw [ticksI_length]; have := cntT_le m 16; omega))
      have HBE := Lib.hid (HB1.out.trans (HBW.out.mono HB1.out.size))
      go_wp2
      go_ret
      exact ⟨_, rfl, HR.out, HBE.out⟩

/-! ### Wants -/
set_option maxRecDepth 100000 in
set_option maxHeartbeats 2000000 in
theorem wants_any (f : Int) (m : Nat) (v : Value) (l : List Pl) (w : World) (h : PlsAt w v l) (hl : l.length ≤ 1200000) :
    Calls Try.prog 65 #[planA f m v] w (RetS (wantsT l) w) := by
  obtain ⟨A, cA, rfl, hlc, hcm⟩ := h.form
  have HL := Lib.hid h
  obtain ⟨w1, P, hw1, hP, hPl, hb1, hbox⟩ := box_any w #[.int .i64 f, .int .u32 m, .slice A l.length cA] 25
  obtain ⟨n, hn⟩ : ∃ n, l.length = n := ⟨_, rfl⟩
  rw [hn] at HL hlc hl hw1 hbox ⊢
  have HN := Lib.hid hn
  have HB1 := Lib.hid hb1
  have HBOX := Lib.hid hbox
  obtain ⟨r0, r1, r2⟩ := three_heads hbox
  clear h hn hb1 hbox
  unfold planA
  have HW := Lib.hid (fun v x w => wantOf_any v x w)
  unfold plA at HW
  have hmk := mk_wants w1 n hl
  obtain ⟨g0, hg0⟩ : ∃ b, w1.heap.size = b := ⟨_, rfl⟩
  obtain ⟨wm, hwm⟩ : ∃ wm, w1.alloc (.cells (spansCells (List.replicate n ((0 : Int), (0 : Int)))).toArray 35) = wm := ⟨_, rfl⟩
  have HBM : Hid (Below w1.heap.size w1 wm) := by rw [← hwm]; exact (Below.refl _ w1).alloc (Nat.le_refl _) _
  have HO1 : Hid (wm.ownsRow w1.heap.size 35 2 (.slice (some ⟨g0, 0, none⟩) n n) n (spansCells (List.replicate n ((0 : Int), (0 : Int))))) := by
    rw [← hwm, ← hg0]
    exact own_made w1 _ _ 2 n _ (by rw [spansCells_length, List.length_replicate]) (Nat.le_refl _) hl
  rw [hwm, hg0] at hmk
  have HSZ := Lib.hid hg0
  obtain ⟨q0, q1, q2⟩ := three_heads (keep_block HBOX.out HBM.out)
  have hn0 : (0 : Int) ≤ (n : Int) := by omega
  clear hwm hg0
  go_enter Try.func65, Try.ntmps65
  go_wp2_with fail
  clear hw1 hP r0 r1 r2 hmk q0 q1 q2
  go_loopg [4, 5, 13] n (fun gg _ _ s wr => ∃ (k : Nat) (D : List Sp), k ≤ n ∧ gg = n - k ∧ s = .int .i64 k ∧ Below w1.heap.size w1 wr ∧ D.length = n ∧ wr.ownsRow w1.heap.size 35 2 (.slice (some ⟨g0, 0, none⟩) n n) n (spansCells D) ∧ ∀ (j : Nat), j < k → D[j]? = (wantsT l)[j]?)
  case atStart => exact ⟨0, _, Nat.zero_le _, by omega, rfl, HBM.out, List.length_replicate, HO1.out, fun j hj => absurd hj (Nat.not_lt_zero _)⟩
  case round =>
    obtain ⟨k, D, hk, hg, rfl, hbw, hD, hown, hsame⟩ := hrel
    have HD := Lib.hid hD
    have HO := Lib.hid hown
    have HS := Lib.hid hsame
    clear hD hown hsame
    have HBW := Lib.hid hbw
    have HB := Lib.hid (HB1.out.trans (hbw.mono HB1.out.size))
    have HG := Lib.hid hg
    have hPl2 : P < wr.heap.size := Nat.lt_of_lt_of_le hPl hbw.size
    have HBX := Lib.hid ((hbw.block P hPl).trans HBOX.out)
    obtain ⟨r0, r1, r2⟩ := three_heads HBX.out
    have HLR := Lib.hid (HL.out.keep HB.out)
    clear hbw hg
    by_cases hlt : k < n
    · have hk0 : (0 : Int) ≤ (k : Int) := by omega
      have hltz : (k : Int) < (n : Int) := by omega
      obtain ⟨x, hx⟩ := exP_at (xs := l) (k := k) (by rw [HN.out]; exact hlt)
      obtain ⟨b, off, B, d, hA, hbl, _, ⟨c0, c1, c2, c3⟩, hps⟩ := HLR.out.at_ hx
      subst hA
      simp only at c0 c1 c2 c3
      have HX := Lib.hid hx
      have HPS := Lib.hid hps
      clear hx hps
      obtain ⟨w2, N, hw2, hN, hNl, hb2, hxbox⟩ := box_any wr #[.int .i64 x.u, .int .i64 x.s, .int .i64 x.c, .slice B x.ps.length d] 38
      have HB2 := Lib.hid hb2
      have HXB := Lib.hid hxbox
      obtain ⟨x0, x1, x2, x3⟩ := four_heads hxbox
      obtain ⟨p0, p1, p2⟩ := three_heads (keep_block HBX.out hb2)
      clear hb2 hxbox
      have HM : Hid ((wantsT l)[k]? = some (x.u, x.s)) := by unfold wantsT; rw [List.getElem?_map, HX.out]; rfl
      go_wp2_with fail
      refine (HW.out _ x _).mono ?_
      rintro e w3 ⟨rfl, hb3⟩
      have HB3 := Lib.hid (HBW.out.trans ((HB2.out.mono HBW.out.size).trans (hb3.mono (Nat.le_trans HBW.out.size HB2.out.size))))
      have HO3 : Hid (w3.ownsRow w1.heap.size 35 2 (.slice (some ⟨g0, 0, none⟩) n n) n (spansCells D)) := own_below5 (own_below5 HO.out HB2.out) hb3
      clear hb3 x0 x1 x2 x3 p0 p1 p2 r0 r1 r2 c0 c1 c2 c3 hw2
      obtain ⟨q, hq⟩ := ex_at (xs := D) (k := k) (by rw [HD.out]; exact hlt)
      have hown' : w3.ownsRow w1.heap.size 35 2 (.slice (some ⟨g0, 0, none⟩) D.length n) D.length (spansCells D) := by rw [HD.out]; exact HO3.out
      obtain ⟨g', cap', hA', _, hgl, _, _, hat, hfr⟩ := own_lies hown' (by rw [HD.out]; omega)
      injection hA' with hA' hA1 hA2; clear hA1 hA2
      injection hA' with hA'
      injection hA' with hA'
      subst hA'
      obtain ⟨t0, t1⟩ := hat k q hq
      have f0 := hfr (k * 2) (by rw [HD.out]; omega)
      have f1 := hfr (k * 2 + 1) (by rw [HD.out]; omega)
      obtain ⟨xu, xs, xc, xp⟩ := x
      simp only at *
      have HO4 : Hid (((w3.setCell ⟨g0, k * 2, none⟩ (.int .i64 xu)).setCell ⟨g0, k * 2 + 1, none⟩ (.int .i64 xs)).ownsRow w1.heap.size 35 2 (.slice (some ⟨g0, 0, none⟩) n n) n (spansCells (D.set k (xu, xs)))) := by
        rw [← spansCells_set D k q (xu, xs) hq]
        exact own_set (own_set HO3.out _) _
      clear hat hfr hq hown'
      go_wp2_with fail
      go_roundg (n - (k + 1))
      case measure => have := HG.out; omega
      case rel =>
        have hbb : w1.heap.size ≤ g0 := Nat.le_of_eq HSZ.out
        refine ⟨k + 1, _, Nat.succ_le_of_lt hlt, rfl, by go_num, ?_, ?_, HO4.out, same_till HS.out HM.out (by rw [HD.out]; exact hlt)⟩
        · exact (HB3.out.setCell (p := ⟨g0, k * 2, none⟩) hbb _).setCell (p := ⟨g0, k * 2 + 1, none⟩) hbb _
        · rw [List.length_set]; exact HD.out
    · have hltz : ¬ (k : Int) < (n : Int) := by omega
      have hwl : (wantsT l).length = n := by rw [wantsT_length]; exact HN.out
      have HDE : Hid (D = wantsT l) := same_end (fun j hj => HS.out j (by omega)) (by rw [HD.out, hwl])
      have HEND : Hid (∀ e, e = .returned (.slice (some ⟨g0, 0, none⟩) n n) → RetS (wantsT l) w e wr) := fun e he => ⟨_, he, spans_of_own (base := w1.heap.size) (e := 35) (by rw [hwl, ← HDE.out]; exact HO.out) (by omega), HB.out⟩
      go_wp2
      go_ret
      exact HEND.out _ rfl
end Go.Proofs.Ytkgkanmccaodfaa
