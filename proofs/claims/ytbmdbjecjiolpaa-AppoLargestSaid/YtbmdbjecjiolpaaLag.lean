/-
  Lag: what it answers, for all lists.
  Conditions: none.
-/
import Derived.Test.YtbmdbjecjiolpaaSeatsOf
set_option linter.unusedVariables false
namespace Go.Proofs.Ytbmdbjecjiolpaa
open Go.RowKit

theorem sumL_ge0 {xs : List Int} (h : ∀ x ∈ xs, 0 ≤ x) : 0 ≤ sumL xs := by
  unfold sumL
  induction xs with
  | nil => simp
  | cons a l ih =>
    rw [List.sum_cons]
    have := h a (by simp)
    have := ih fun x hx => h x (by simp [hx])
    omega
theorem sumL_le {xs : List Int} {c : Int} (h : ∀ x ∈ xs, x ≤ c) : sumL xs ≤ c * xs.length := by
  unfold sumL
  induction xs with
  | nil => simp
  | cons a l ih =>
    rw [List.sum_cons, List.length_cons]
    have := h a (by simp)
    have := ih fun x hx => h x (by simp [hx])
    have e : c * ((l.length + 1 : Nat) : Int) = c * l.length + c := by rw [Int.natCast_add, Int.mul_add]; simp
    omega

/-- What anybody has: as it may be. -/
def GoodH (hs : List Int) : Prop := ∀ x ∈ hs, 0 ≤ x ∧ x ≤ 1048576
def LagRight (ws hs : List Int) : Prop := Right ws ∧ hs.length = ws.length ∧ GoodH hs
/-- What everybody has too little. -/
def lagL (ws hs : List Int) : List Int := List.zipWith (fun x y => sumL hs * x - y * sumL ws) ws hs
theorem length_lagL {ws hs : List Int} (h : hs.length = ws.length) : (lagL ws hs).length = ws.length := by simp [lagL, h]
theorem lagL_at {ws hs : List Int} {k : Nat} {x y : Int} (hx : ws[k]? = some x) (hy : hs[k]? = some y) : (lagL ws hs)[k]? = some (sumL hs * x - y * sumL ws) := by
  simp [lagL, List.getElem?_zipWith, hx, hy]
theorem sum_zip (A B : Int) : ∀ {ws hs : List Int}, hs.length = ws.length → sumL (List.zipWith (fun x y => A * x - y * B) ws hs) = A * sumL ws - sumL hs * B
  | [], [], _ => by simp [sumL]
  | [], _ :: _, h => by simp at h
  | _ :: _, [], h => by simp at h
  | a :: l, b :: m, h => by
    have ih := sum_zip A B (ws := l) (hs := m) (by simpa using h)
    simp only [sumL, List.zipWith_cons_cons, List.sum_cons] at ih ⊢
    rw [ih, Int.mul_add, Int.add_mul]
    omega
theorem sumL_lagL {ws hs : List Int} (h : hs.length = ws.length) : sumL (lagL ws hs) = 0 := by
  unfold lagL
  rw [sum_zip _ _ h]
  omega
theorem good_small {ws hs : List Int} (h : LagRight ws hs) : Small hs := ⟨by rw [h.2.1]; exact h.1.1, fun x hx => by have := h.2.2 x hx; omega⟩
theorem good_sum {ws hs : List Int} (h : LagRight ws hs) : 0 ≤ sumL hs ∧ sumL hs ≤ 67108864 := by
  refine ⟨sumL_ge0 fun x hx => (h.2.2 x hx).1, ?_⟩
  have := sumL_le fun x hx => (h.2.2 x hx).2
  have h1 := h.1.1
  have h2 := h.2.1
  omega
theorem lag_parts {ws hs : List Int} (h : LagRight ws hs) {x y : Int} (hx : 0 ≤ x ∧ x ≤ 1000) (hy : 0 ≤ y ∧ y ≤ 1048576) :
    (0 ≤ sumL hs * x ∧ sumL hs * x ≤ 67108864000) ∧ 0 ≤ y * sumL ws ∧ y * sumL ws ≤ 67108864000 := by
  obtain ⟨s0, s1⟩ := good_sum h
  obtain ⟨w0, w1⟩ := h.1.sumBound
  refine ⟨⟨Int.mul_nonneg s0 hx.1, ?_⟩, Int.mul_nonneg hy.1 (by omega), ?_⟩
  · have : sumL hs * x ≤ 67108864 * 1000 := Int.mul_le_mul s1 hx.2 hx.1 (by omega)
    omega
  · have : y * sumL ws ≤ 1048576 * 64000 := Int.mul_le_mul hy.2 w1 (by omega) (by omega)
    omega
theorem lag_small {ws hs : List Int} (h : LagRight ws hs) : Small (lagL ws hs) := by
  refine ⟨by rw [length_lagL h.2.1]; exact h.1.1, fun z hz => ?_⟩
  obtain ⟨k, hk, rfl⟩ := List.getElem_of_mem hz
  rw [length_lagL h.2.1] at hk
  obtain ⟨x, hx⟩ := ex_at hk
  obtain ⟨y, hy⟩ := ex_at (xs := hs) (k := k) (by rw [h.2.1]; exact hk)
  have e := lagL_at hx hy
  rw [List.getElem?_eq_getElem (by rw [length_lagL h.2.1]; exact hk)] at e
  injection e with e
  rw [e]
  have := lag_parts h (h.1.at hx) (h.2.2 y (List.mem_of_getElem? hy))
  omega

/-- The first k are as they may be. -/
def InH (xs : List Int) (k : Nat) : Prop := ∀ x ∈ xs.take k, 0 ≤ x ∧ x ≤ 1048576
theorem InH.zero (xs : List Int) : InH xs 0 := fun x hx => by simp at hx
theorem InH.succ {xs : List Int} {k : Nat} {x : Int} (h : InH xs k) (hx : xs[k]? = some x) (h0 : 0 ≤ x) (h1 : x ≤ 1048576) : InH xs (k + 1) := fun y hy => by
  rw [List.take_add_one, hx] at hy
  rcases List.mem_append.1 hy with hy | hy
  · exact h y hy
  · simp at hy; subst hy; exact ⟨h0, h1⟩
theorem InH.all {xs : List Int} {k : Nat} (h : InH xs k) (hk : xs.length ≤ k) : GoodH xs := fun x hx => h x (by rwa [List.take_of_length_le hk])
theorem not_good_at {xs : List Int} {k : Nat} {x : Int} (hx : xs[k]? = some x) (h : x < 0 ∨ 1048576 < x) : ¬ GoodH xs := fun hr => by have := hr x (List.mem_of_getElem? hx); omega

def LagRel (hs : List Int) (i : Value) : Prop := ∃ k : Nat, k ≤ hs.length ∧ i = .int .i64 k ∧ InH hs k

set_option maxHeartbeats 1000000 in
theorem lag_bad (ws hs : List Int) (u v : Value) (w : World) (hu : IntsAt w u ws) (hv : IntsAt w v hs) (h : ¬ LagRight ws hs) :
    Calls Try.prog 21 #[u, v] w (RetIE [] 1 w) := by
  have HC := check_any ws u w hu
  obtain ⟨A, c, rfl, hl, hat⟩ := hu
  obtain ⟨B, d, rfl, hm, hbt⟩ := hv
  have HB := Lib.hid hbt
  clear hat hbt
  by_cases hr : Right ws
  · rw [chk_ok hr] at HC
    have HC := Lib.hid HC
    by_cases hne : hs.length = ws.length
    · have hbad : ¬ GoodH hs := fun hg => h ⟨hr, hne, hg⟩
      have HBAD := Lib.hid hbad
      have hn2 : ((hs.length : Int) != (ws.length : Int)) = false := by simp; omega
      have hn1 : ((hs.length : Int) == (ws.length : Int)) = true := by simp; omega
      clear h hr hne hbad
      go_enter Try.func21, Try.ntmps21
      go_wp2_with (go_at_call 10; refine HC.out.mono ?_; rintro e w' ⟨rfl, rfl⟩)
      go_loop [24] (fun i => LagRel hs i) (fun i => hs.length - (intOf i).toNat)
      case atStart => exact ⟨0, Nat.zero_le _, rfl, InH.zero _⟩
      case round =>
        obtain ⟨k, hk, rfl, hr⟩ := hrel
        have HR := Lib.hid hr
        clear hr
        have hlt : k < hs.length := by
          rcases Nat.lt_or_ge k hs.length with h1 | h1
          · exact h1
          · exact absurd (HR.out.all h1) HBAD.out
        obtain ⟨x, hx⟩ := ex_at hlt
        obtain ⟨b, off, rfl, hb, hc⟩ := HB.out (by omega)
        have hck := hc k x hx
        have HX := Lib.hid hx
        clear hc hx
        by_cases c1 : x < 0
        · go_wp2_with fail
          go_ret2
          exact ⟨_, rfl, IntsAt.nil _, Below.refl _ _⟩
        · have c1' : 0 ≤ x := by omega
          by_cases c2 : 1048576 < x
          · go_wp2_with fail
            go_ret2
            exact ⟨_, rfl, IntsAt.nil _, Below.refl _ _⟩
          · have c2' : x ≤ 1048576 := by omega
            go_wp2_with fail
            go_round
            case rel => exact ⟨k + 1, by omega, by go_num, HR.out.succ HX.out c1' c2'⟩
            case measure => simp [intOf]; omega
    · have hn2 : ((hs.length : Int) != (ws.length : Int)) = true := by simp; omega
      have hn1 : ((hs.length : Int) == (ws.length : Int)) = false := by simp; omega
      clear h hr hne
      go_enter Try.func21, Try.ntmps21
      go_wp2_with (go_at_call 10; refine HC.out.mono ?_; rintro e w' ⟨rfl, rfl⟩)
      go_ret2
      exact ⟨_, rfl, IntsAt.nil _, Below.refl _ _⟩
  · rw [chk_bad hr] at HC
    have HC := Lib.hid HC
    clear h hr
    go_enter Try.func21, Try.ntmps21
    go_wp2_with (go_at_call 10; refine HC.out.mono ?_; rintro e w' ⟨rfl, rfl⟩)
    go_ret2
    exact ⟨_, rfl, IntsAt.nil _, Below.refl _ _⟩

def LagRel2 (ls : List Int) (w : World) (g : Nat) (q : Nat) (s : Value) (wr : World) : Prop :=
  ∃ k : Nat, k ≤ ls.length ∧ q = ls.length - k ∧ s = .int .i64 k ∧ Below w.heap.size w wr ∧ RowAt wr g (fillT ls k)

set_option maxRecDepth 100000 in
set_option maxHeartbeats 1000000 in
theorem lag_ok (ws hs : List Int) (u v : Value) (w : World) (hu : IntsAt w u ws) (hv : IntsAt w v hs) (h : LagRight ws hs) :
    Calls Try.prog 21 #[u, v] w (RetIE (lagL ws hs) 0 w) := by
  have HC := check_any ws u w hu
  rw [chk_ok h.1] at HC
  have HC := Lib.hid HC
  have HS1 := Lib.hid (sum_any ws u w hu h.1.small)
  have HS2 := Lib.hid (sum_any hs v w hv (good_small h))
  obtain ⟨A, c, rfl, hl, hat⟩ := hu
  obtain ⟨B, d, rfl, hm, hbt⟩ := hv
  have HA := Lib.hid hat
  have HB := Lib.hid hbt
  have H := Lib.hid h
  have hne := h.2.1
  have hn2 : ((hs.length : Int) != (ws.length : Int)) = false := by simp; omega
  have hn1 : ((hs.length : Int) == (ws.length : Int)) = true := by simp; omega
  have HN := Lib.hid hne
  have l1 := h.1.1
  have l2 : hs.length ≤ 64 := by omega
  obtain ⟨s0, s1⟩ := good_sum h
  obtain ⟨w0, w1⟩ := h.1.sumBound
  clear h hne hat hbt
  have hmk := Lib.hid (fun W => mk_ints W ws.length (by omega))
  go_enter Try.func21, Try.ntmps21
  go_wp2_with (go_at_call 10; refine HC.out.mono ?_; rintro e w' ⟨rfl, rfl⟩)
  go_loop [24] (fun i => LagRel hs i) (fun i => hs.length - (intOf i).toNat)
  case atStart => exact ⟨0, Nat.zero_le _, rfl, InH.zero _⟩
  case round =>
    obtain ⟨k, hk, rfl, hr⟩ := hrel
    have HR := Lib.hid hr
    clear hr
    by_cases hlt : k < hs.length
    · obtain ⟨x, hx⟩ := ex_at hlt
      obtain ⟨b, off, rfl, hb, hc⟩ := HB.out (by omega)
      have hck := hc k x hx
      obtain ⟨c1', c2'⟩ := H.out.2.2 x (List.mem_of_getElem? hx)
      have HX := Lib.hid hx
      clear hc hx
      go_wp2_with fail
      go_round
      case rel => exact ⟨k + 1, by omega, by go_num, HR.out.succ HX.out c1' c2'⟩
      case measure => simp [intOf]; omega
    · have hmk := hmk.out
      go_wp2_with (first
        | (go_at_call 24; (with_reducible refine HS1.out.mono ?_); rintro e w' ⟨rfl, rfl⟩)
        | (go_at_call 24; (with_reducible refine HS2.out.mono ?_); rintro e w' ⟨rfl, rfl⟩))
      clear hmk
      go_loopg [44] ws.length (fun q s wr => LagRel2 (lagL ws hs) w w.heap.size q s wr)
      case atStart =>
        have e := length_lagL HN.out
        refine ⟨0, Nat.zero_le _, by rw [e]; rfl, rfl, (Below.refl _ _).alloc (Nat.le_refl _) _, ?_⟩
        rw [fillT_zero, e]; exact RowAt.new _ _
      case round =>
        obtain ⟨j, hj, hg, rfl, hbw, hrow⟩ := hrel
        rw [length_lagL HN.out] at hj hg
        have HG := Lib.hid hg
        have HW := Lib.hid hbw
        have HRow := Lib.hid hrow
        clear hg hbw hrow
        by_cases hjl : j < ws.length
        · obtain ⟨x, hx⟩ := ex_at hjl
          obtain ⟨y, hy⟩ := ex_at (xs := hs) (k := j) (by have := HN.out; omega)
          have hxr := H.out.1.at hx
          have hyr := H.out.2.2 y (List.mem_of_getElem? hy)
          obtain ⟨⟨p1, p2⟩, p3, p4⟩ := lag_parts H.out hxr hyr
          obtain ⟨x1, x2⟩ := hxr
          obtain ⟨y1, y2⟩ := hyr
          obtain ⟨b, off, rfl, hb, hc⟩ := HA.out (by omega)
          have hjh : j < hs.length := by have := HN.out; omega
          obtain ⟨b', off', rfl, hb', hc'⟩ := HB.out (by omega)
          have hck : wr.cell? ⟨b, off + j, none⟩ = some (.int .i64 x) := (HW.out.cell (p := ⟨b, off + j, none⟩) hb).trans (hc j x hx)
          have hck' : wr.cell? ⟨b', off' + j, none⟩ = some (.int .i64 y) := (HW.out.cell (p := ⟨b', off' + j, none⟩) hb').trans (hc' j y hy)
          have hc1 : wr.cell? ⟨w.heap.size, j, none⟩ = some (.int .i64 0) := HRow.out.cell (by rw [fillT_get, if_neg (by omega), if_pos (by rw [length_lagL HN.out]; exact hjl)])
          have hf1 := HRow.out.frozen j
          have HX := Lib.hid hx
          have HY := Lib.hid hy
          clear hc hc' hx hy
          go_wp2_with fail
          go_region
          all_goals go_wp2_with fail
          all_goals
            go_roundg (ws.length - (j + 1))
            case measure => have := HG.out; omega
            case rel =>
              refine ⟨j + 1, by rw [length_lagL HN.out]; omega, by rw [length_lagL HN.out], by go_num, ?_, ?_⟩
              · exact (HW.out.setCell (Nat.le_refl _) _).drew
              · rw [← fillT_set (lagL_at HX.out HY.out)]
                exact (HRow.out.set_ j _).drewN 1
        · obtain rfl : j = ws.length := by omega
          have HF : Hid (IntsAt wr (.slice (some ⟨w.heap.size, 0, none⟩) ws.length ws.length) (lagL ws hs)) := by
            have e := length_lagL HN.out
            have a1 := HRow.out
            rw [show ws.length = (lagL ws hs).length from e.symm, fillT_all] at a1
            have := a1.ints (by omega) ws.length
            rwa [e] at this
          go_wp2_with fail
          go_ret2
          exact ⟨_, rfl, HF.out, HW.out⟩
end Go.Proofs.Ytbmdbjecjiolpaa
