/-
  The quotas, rounded down, and their rests.
  Conditions: weights and total that are right.
-/
import Derived.Test.YtademjmnoncieaaSeats
import Derived.BigRegion
set_option linter.unusedVariables false
namespace Go.Proofs.Ytademjmnoncieaa
open Go.RowKit

def fillT (xs : List Int) (k : Nat) : List Int := xs.take k ++ zeros (xs.length - k)
theorem fillT_zero (xs : List Int) : fillT xs 0 = zeros xs.length := by simp [fillT]
theorem fillT_all (xs : List Int) : fillT xs xs.length = xs := by simp [fillT, zeros]
theorem length_fillT {xs : List Int} {k : Nat} (h : k ≤ xs.length) : (fillT xs k).length = xs.length := by simp [fillT, zeros]; omega
theorem fillT_get (xs : List Int) (k j : Nat) : (fillT xs k)[j]? = if j < k then xs[j]? else if j < xs.length then some 0 else none := by
  unfold fillT zeros
  rw [List.getElem?_append, List.length_take, List.getElem?_take, List.getElem?_replicate]
  by_cases h1 : j < k
  · by_cases h2 : j < xs.length
    · rw [if_pos (by omega), if_pos h1, if_pos h1]
    · rw [if_neg (by omega), if_neg (by omega), if_pos h1, List.getElem?_eq_none (by omega)]
  · rw [if_neg (by omega), if_neg h1]
    by_cases h2 : j < xs.length
    · rw [if_pos (by omega), if_pos h2]
    · rw [if_neg (by omega), if_neg h2]
theorem fillT_set {xs : List Int} {k : Nat} {x : Int} (h : xs[k]? = some x) : (fillT xs k).set k x = fillT xs (k + 1) := by
  have hk : k < xs.length := (List.getElem?_eq_some_iff.1 h).1
  apply List.ext_getElem?
  intro j
  rw [fillT_get, List.getElem?_set, length_fillT (by omega), fillT_get]
  by_cases e : k = j
  · subst e
    rw [if_pos rfl, if_pos hk, if_pos (show k < k + 1 by omega), h]
  · rw [if_neg e]
    by_cases h1 : j < k
    · rw [if_pos h1, if_pos (by omega)]
    · rw [if_neg h1, if_neg (show ¬ j < k + 1 by omega)]

theorem qs_at {T : Int} {ws : List Int} {k : Nat} {x : Int} (h : ws[k]? = some x) : (qs T ws)[k]? = some (T * x / sumL ws) := by simp [qs, h]
theorem rs_at {T : Int} {ws : List Int} {k : Nat} {x : Int} (h : ws[k]? = some x) : (rs T ws)[k]? = some (T * x % sumL ws) := by simp [rs, h]

/-- Two lists that the call made: two rows of its own. -/
def RetQ (xs ys : List Int) (w : World) (e : Ending) (w' : World) : Prop :=
  ∃ g h : Nat, e = .returned (.tuple #[.slice (some ⟨g, 0, none⟩) xs.length xs.length, .slice (some ⟨h, 0, none⟩) xs.length xs.length]) ∧ g ≠ h ∧ w.heap.size ≤ g ∧ w.heap.size ≤ h ∧ RowAt w' g xs ∧ RowAt w' h ys ∧ Below w.heap.size w w'

def QuoRel (xs ys : List Int) (w : World) (g h : Nat) (q : Nat) (s : Value) (wr : World) : Prop :=
  ∃ k : Nat, k ≤ xs.length ∧ q = xs.length - k ∧ s = .int .i64 k ∧ Below w.heap.size w wr ∧ RowAt wr g (fillT xs k) ∧ RowAt wr h (fillT ys k)

set_option maxRecDepth 100000 in
set_option maxHeartbeats 1000000 in
theorem quotas_any (T : Int) (ws : List Int) (v : Value) (w : World) (hu : IntsAt w v ws) (hr : Right ws) (hT0 : 0 ≤ T) (hT : T ≤ 1048576) :
    Calls Try.prog 30 #[.int .i64 T, v] w (RetQ (qs T ws) (rs T ws) w) := by
  have HS := Lib.hid (sum3_any ws v w hu hr.small)
  obtain ⟨A, c, rfl, hl, hat⟩ := hu
  have HA := Lib.hid hat
  have HR := Lib.hid hr
  have l1 := hr.1
  have l0 := hr.pos
  obtain ⟨W0, W1⟩ := hr.sumBound
  clear hat hr
  have hmk := fun W => mk_ints W ws.length (by omega)
  go_enter Try.func30, Try.ntmps30
  go_wp2_with (go_at_call 31; refine HS.out.mono ?_; rintro e w' ⟨rfl, rfl⟩)
  go_region
  · go_wp2_with fail
    clear hmk
    go_loopg [19] ws.length (fun q s wr => QuoRel (qs T ws) (rs T ws) w (w.heap.size) (w.heap.size + 1) q s wr)
    case atStart =>
      refine ⟨0, Nat.zero_le _, by rw [length_qs]; rfl, rfl, (((Below.refl _ _).alloc (Nat.le_refl _) _).alloc (by simp) _).drew, ?_, ?_⟩
      · rw [fillT_zero, length_qs]; exact ((RowAt.new w (zeros ws.length)).alloc (.cells (rowOf (zeros ws.length)) 3)).drewN 1
      · rw [fillT_zero, length_rs]; exact (show RowAt _ (w.heap.size + 1) _ from by have := RowAt.new (w.alloc (.cells (rowOf (zeros ws.length)) 3)) (zeros ws.length); rw [World.size_alloc] at this; exact this.drewN 1)
    case round =>
      obtain ⟨k, hk, hg, rfl, hbw, hrow, hrow'⟩ := hrel
      rw [length_qs] at hk hg
      have HG := Lib.hid hg
      have HW := Lib.hid hbw
      have HRow := Lib.hid hrow
      have HRow' := Lib.hid hrow'
      clear hg hbw hrow hrow'
      by_cases hlt : k < ws.length
      · obtain ⟨x, hx⟩ := ex_at hlt
        obtain ⟨x1, x2⟩ := HR.out.at hx
        have HX := Lib.hid hx
        obtain ⟨b, off, rfl, hb, hc⟩ := HA.out (by omega)
        have hck : wr.cell? ⟨b, off + k, none⟩ = some (.int .i64 x) := (HW.out.cell (p := ⟨b, off + k, none⟩) hb).trans (hc k x hx)
        have hc1 : wr.cell? ⟨w.heap.size, k, none⟩ = some (.int .i64 0) := HRow.out.cell (by rw [fillT_get, if_neg (by omega), if_pos (by rw [length_qs]; exact hlt)])
        have hc2 : wr.cell? ⟨w.heap.size + 1, k, none⟩ = some (.int .i64 0) := HRow'.out.cell (by rw [fillT_get, if_neg (by omega), if_pos (by rw [length_rs]; exact hlt)])
        have hf1 := HRow.out.frozen k
        have hf2 := HRow'.out.frozen k
        have hP0 : 0 ≤ T * x := Int.mul_nonneg hT0 x1
        have hP1 : T * x ≤ 1048576000 := by
          have : T * x ≤ 1048576 * 1000 := Int.mul_le_mul hT x2 x1 (by omega)
          omega
        clear hx hc
        go_wp2_with fail
        go_region
        all_goals go_wp2_with fail
        all_goals
          go_roundg (ws.length - (k + 1))
          case measure => have := HG.out; omega
          case rel =>
            refine ⟨k + 1, by rw [length_qs]; omega, by rw [length_qs], by go_num, ?_, ?_, ?_⟩
            · exact ((HW.out.setCell (by simp) _).setCell (by simp) _).drew
            · rw [← fillT_set (qs_at HX.out)]
              first
                | exact (((HRow.out.set_ k (T * x / sumL ws)).far (by simp) (.int .i64 (T * x % sumL ws)))).drewN 1
                | exact ((HRow.out.far (by simp) (.int .i64 (T * x % sumL ws))).set_ k (T * x / sumL ws)).drewN 1
            · rw [← fillT_set (rs_at HX.out)]
              first
                | exact ((HRow'.out.far (by simp) (.int .i64 (T * x / sumL ws))).set_ k (T * x % sumL ws)).drewN 1
                | exact (((HRow'.out.set_ k (T * x % sumL ws)).far (by simp) (.int .i64 (T * x / sumL ws)))).drewN 1
      · obtain rfl : k = ws.length := by omega
        have HQ : Hid (RetQ (qs T ws) (rs T ws) w (.returned (.tuple #[.slice (some ⟨w.heap.size, 0, none⟩) ws.length ws.length, .slice (some ⟨w.heap.size + 1, 0, none⟩) ws.length ws.length])) wr) := by
          have a1 := HRow.out
          have a2 := HRow'.out
          rw [show ws.length = (qs T ws).length from (length_qs _ _).symm, fillT_all] at a1
          rw [show ws.length = (rs T ws).length from (length_rs _ _).symm, fillT_all] at a2
          exact ⟨w.heap.size, w.heap.size + 1, by rw [length_qs], by omega, by omega, by omega, a1, a2, HW.out⟩
        go_wp2_with fail
        go_ret2
        exact HQ.out
  · go_wp2_with fail
    clear hmk
    go_loopg [19] ws.length (fun q s wr => QuoRel (qs T ws) (rs T ws) w (w.heap.size + 1) (w.heap.size) q s wr)
    case atStart =>
      refine ⟨0, Nat.zero_le _, by rw [length_qs]; rfl, rfl, (((Below.refl _ _).alloc (Nat.le_refl _) _).alloc (by simp) _).drew, ?_, ?_⟩
      · rw [fillT_zero, length_qs]; exact (show RowAt _ (w.heap.size + 1) _ from by have := RowAt.new (w.alloc (.cells (rowOf (zeros ws.length)) 3)) (zeros ws.length); rw [World.size_alloc] at this; exact this.drewN 1)
      · rw [fillT_zero, length_rs]; exact ((RowAt.new w (zeros ws.length)).alloc (.cells (rowOf (zeros ws.length)) 3)).drewN 1
    case round =>
      obtain ⟨k, hk, hg, rfl, hbw, hrow, hrow'⟩ := hrel
      rw [length_qs] at hk hg
      have HG := Lib.hid hg
      have HW := Lib.hid hbw
      have HRow := Lib.hid hrow
      have HRow' := Lib.hid hrow'
      clear hg hbw hrow hrow'
      by_cases hlt : k < ws.length
      · obtain ⟨x, hx⟩ := ex_at hlt
        obtain ⟨x1, x2⟩ := HR.out.at hx
        have HX := Lib.hid hx
        obtain ⟨b, off, rfl, hb, hc⟩ := HA.out (by omega)
        have hck : wr.cell? ⟨b, off + k, none⟩ = some (.int .i64 x) := (HW.out.cell (p := ⟨b, off + k, none⟩) hb).trans (hc k x hx)
        have hc1 : wr.cell? ⟨w.heap.size + 1, k, none⟩ = some (.int .i64 0) := HRow.out.cell (by rw [fillT_get, if_neg (by omega), if_pos (by rw [length_qs]; exact hlt)])
        have hc2 : wr.cell? ⟨w.heap.size, k, none⟩ = some (.int .i64 0) := HRow'.out.cell (by rw [fillT_get, if_neg (by omega), if_pos (by rw [length_rs]; exact hlt)])
        have hf1 := HRow.out.frozen k
        have hf2 := HRow'.out.frozen k
        have hP0 : 0 ≤ T * x := Int.mul_nonneg hT0 x1
        have hP1 : T * x ≤ 1048576000 := by
          have : T * x ≤ 1048576 * 1000 := Int.mul_le_mul hT x2 x1 (by omega)
          omega
        clear hx hc
        go_wp2_with fail
        go_region
        all_goals go_wp2_with fail
        all_goals
          go_roundg (ws.length - (k + 1))
          case measure => have := HG.out; omega
          case rel =>
            refine ⟨k + 1, by rw [length_qs]; omega, by rw [length_qs], by go_num, ?_, ?_, ?_⟩
            · exact ((HW.out.setCell (by simp) _).setCell (by simp) _).drew
            · rw [← fillT_set (qs_at HX.out)]
              first
                | exact (((HRow.out.set_ k (T * x / sumL ws)).far (by simp) (.int .i64 (T * x % sumL ws)))).drewN 1
                | exact ((HRow.out.far (by simp) (.int .i64 (T * x % sumL ws))).set_ k (T * x / sumL ws)).drewN 1
            · rw [← fillT_set (rs_at HX.out)]
              first
                | exact ((HRow'.out.far (by simp) (.int .i64 (T * x / sumL ws))).set_ k (T * x % sumL ws)).drewN 1
                | exact (((HRow'.out.set_ k (T * x % sumL ws)).far (by simp) (.int .i64 (T * x / sumL ws)))).drewN 1
      · obtain rfl : k = ws.length := by omega
        have HQ : Hid (RetQ (qs T ws) (rs T ws) w (.returned (.tuple #[.slice (some ⟨w.heap.size + 1, 0, none⟩) ws.length ws.length, .slice (some ⟨w.heap.size, 0, none⟩) ws.length ws.length])) wr) := by
          have a1 := HRow.out
          have a2 := HRow'.out
          rw [show ws.length = (qs T ws).length from (length_qs _ _).symm, fillT_all] at a1
          rw [show ws.length = (rs T ws).length from (length_rs _ _).symm, fillT_all] at a2
          exact ⟨w.heap.size + 1, w.heap.size, by rw [length_qs], by omega, by omega, by omega, a1, a2, HW.out⟩
        go_wp2_with fail
        go_ret2
        exact HQ.out
end Go.Proofs.Ytademjmnoncieaa
