/-
  The page's examples.
  Conditions: none.
-/
import Derived.Test.YtaffcpjhaacadaaEncode
import Derived.Test.YtaffcpjhaacadaaReadRow
import Derived.Test.YtaffcpjhaacadaaAlone
import Derived.Test.YtaffcpjhaacadaaRefValue
set_option linter.unusedVariables false
namespace Go.Proofs.Ytaffcpjhaacadaa
open Go.RowKit

theorem encs_small : ∀ {l : List Nat}, (∀ n ∈ l, n < 128) → encs l = l
  | [], _ => rfl
  | n :: l, h => by
    rw [encs_cons, enc_small (h n (by simp)), encs_small (fun m hm => h m (by simp [hm]))]
    rfl
theorem enc_ex : encW 2 [[1, 0], [1, 0], [0, 3]] = [2, 3, 2, 1, 0, 1, 0, 3] := by
  unfold encW
  rw [show numsW 2 [[1, 0], [1, 0], [0, 3]] = [2, 3, 2, 1, 0, 1, 0, 3] by decide]
  exact encs_small (by decide)
theorem right_ex : rightW 2 [[1, 0], [1, 0], [0, 3]] = true := by decide
theorem alone_ex1 : [[(0 : Int), 0, 1]].all aloneB = true := by decide
theorem alone_ex2 : [[(1 : Int), 0, 1]].all aloneB = false := by decide

/-- Literals of ints, of rows. -/
theorem lit_ints (W : World) (xs : List Int) (hl : xs.length ≤ 1000) : IntsAt (W.alloc (.cells (rowC xs) 3)) (.slice (some ⟨W.heap.size, 0, none⟩) xs.length xs.length) xs := (RowB.new W xs).ints (by omega) _
def valC (ls : List (Value × List Int)) : Array Value := (ls.map Prod.fst).toArray
theorem lit_rows (W : World) (ls : List (Value × List Int)) (h : ∀ p ∈ ls, IntsAt W p.1 p.2) (hl : ls.length ≤ 1000) : RowsAt (W.alloc (.cells (valC ls) 39)) (.slice (some ⟨W.heap.size, 0, none⟩) ls.length ls.length) ls := by
  have hb := below_new (W := W) (.cells (valC ls) 39)
  refine ⟨_, _, rfl, Nat.le_refl _, by omega, fun _ => ⟨W.heap.size, 0, rfl, by simp, fun j p hp => ?_⟩, fun p hp => (h p hp).keep hb⟩
  rw [Nat.zero_add, cell_of_row _ W.heap.size j _ _ (0, 0) (World.alloc_heap_new W _)]
  simp [valC, hp]

set_option maxRecDepth 100000 in
set_option maxHeartbeats 4000000 in
theorem awake_any (w : World) : Calls Try.prog 8 #[] w (RetB (.bool true) w) := by
  have i1 : IntsAt (w.alloc (.cells #[.int .i64 1, .int .i64 0] 3)) (.slice (some ⟨w.heap.size, 0, none⟩) 2 2) [1, 0] := lit_ints w [1, 0] (by simp)
  have i2 : IntsAt ((w.alloc (.cells #[.int .i64 1, .int .i64 0] 3)).alloc (.cells #[.int .i64 1, .int .i64 0] 3)) (.slice (some ⟨w.heap.size + 1, 0, none⟩) 2 2) [1, 0] := by
    have h := lit_ints (w.alloc (.cells #[.int .i64 1, .int .i64 0] 3)) [1, 0] (by simp)
    simp only [World.size_alloc] at h
    exact h
  have i3 : IntsAt (((w.alloc (.cells #[.int .i64 1, .int .i64 0] 3)).alloc (.cells #[.int .i64 1, .int .i64 0] 3)).alloc (.cells #[.int .i64 0, .int .i64 3] 3)) (.slice (some ⟨w.heap.size + 1 + 1, 0, none⟩) 2 2) [0, 3] := by
    have h := lit_ints ((w.alloc (.cells #[.int .i64 1, .int .i64 0] 3)).alloc (.cells #[.int .i64 1, .int .i64 0] 3)) [0, 3] (by simp)
    simp only [World.size_alloc] at h
    exact h
  have b2 := below_new (W := (w.alloc (.cells #[.int .i64 1, .int .i64 0] 3))) (.cells #[.int .i64 1, .int .i64 0] 3)
  have b3 := below_new (W := ((w.alloc (.cells #[.int .i64 1, .int .i64 0] 3)).alloc (.cells #[.int .i64 1, .int .i64 0] 3))) (.cells #[.int .i64 0, .int .i64 3] 3)
  have HR := Lib.hid (show RowsAt ((((w.alloc (.cells #[.int .i64 1, .int .i64 0] 3)).alloc (.cells #[.int .i64 1, .int .i64 0] 3)).alloc (.cells #[.int .i64 0, .int .i64 3] 3)).alloc (.cells #[.slice (some ⟨w.heap.size, 0, none⟩) 2 2, .slice (some ⟨w.heap.size + 1, 0, none⟩) 2 2, .slice (some ⟨w.heap.size + 1 + 1, 0, none⟩) 2 2] 39)) (.slice (some ⟨w.heap.size + 1 + 1 + 1, 0, none⟩) 3 3) [(.slice (some ⟨w.heap.size, 0, none⟩) 2 2, [1, 0]), (.slice (some ⟨w.heap.size + 1, 0, none⟩) 2 2, [1, 0]), (.slice (some ⟨w.heap.size + 1 + 1, 0, none⟩) 2 2, [0, 3])] by
    have h := lit_rows (((w.alloc (.cells #[.int .i64 1, .int .i64 0] 3)).alloc (.cells #[.int .i64 1, .int .i64 0] 3)).alloc (.cells #[.int .i64 0, .int .i64 3] 3)) [(.slice (some ⟨w.heap.size, 0, none⟩) 2 2, [1, 0]), (.slice (some ⟨w.heap.size + 1, 0, none⟩) 2 2, [1, 0]), (.slice (some ⟨w.heap.size + 1 + 1, 0, none⟩) 2 2, [0, 3])] (fun p hp => by
      rcases List.mem_cons.1 hp with rfl | hp
      · exact (i1.keep b2).keep b3
      · rcases List.mem_cons.1 hp with rfl | hp
        · exact i2.keep b3
        · rw [List.mem_singleton.1 hp]; exact i3) (by simp)
    simp only [World.size_alloc] at h
    exact h)
  have HB := Lib.hid (show Below w.heap.size w ((((w.alloc (.cells #[.int .i64 1, .int .i64 0] 3)).alloc (.cells #[.int .i64 1, .int .i64 0] 3)).alloc (.cells #[.int .i64 0, .int .i64 3] 3)).alloc (.cells #[.slice (some ⟨w.heap.size, 0, none⟩) 2 2, .slice (some ⟨w.heap.size + 1, 0, none⟩) 2 2, .slice (some ⟨w.heap.size + 1 + 1, 0, none⟩) 2 2] 39)) from ((((Below.refl _ w).alloc (Nat.le_refl _) _).alloc (by simp) _).alloc (by simp; omega) _).alloc (by simp; omega) _)
  clear i1 i2 i3 b2 b3
  go_enter Try.func8, Try.ntmps8
  go_wp2_with fail
  refine (encode_any 2 _ _ _ HR.out).mono ?_
  intro e w5 hE
  obtain ⟨v5, rfl, ho5, hb5⟩ := hE.yes right_ex
  have hv5 := ho5.bytes
  rw [show encW 2 (rowsOf [(.slice (some ⟨w.heap.size, 0, none⟩) 2 2, [1, 0]), (.slice (some ⟨w.heap.size + 1, 0, none⟩) 2 2, [1, 0]), (.slice (some ⟨w.heap.size + 1 + 1, 0, none⟩) 2 2, [0, 3])]) = [2, 3, 2, 1, 0, 1, 0, 3] from enc_ex] at hv5
  have HB5 := Lib.hid (HB.out.trans (hb5.mono HB.out.size))
  clear hE ho5 hb5
  simp only
  have hl6 : Own (w5.alloc (.cells #[.int .u8 2, .int .u8 3, .int .u8 2, .int .u8 1, .int .u8 0, .int .u8 1, .int .u8 0, .int .u8 3] 5)) 0 (.slice (some ⟨w5.heap.size, 0, none⟩) 8 8) [2, 3, 2, 1, 0, 1, 0, 3] := lit_own w5 [2, 3, 2, 1, 0, 1, 0, 3] (by decide) (by simp) 0 (Nat.zero_le _)
  have e1 := conv_text (P := Try.prog) (dst := 9) hv5 Try.underlying25 Try.underlying5 Try.underlying9
  have e2 := conv_text (P := Try.prog) (dst := 9) hl6.bytes Try.underlying25 Try.underlying5 Try.underlying9
  have i6 : IntsAt ((w5.alloc (.cells #[.int .u8 2, .int .u8 3, .int .u8 2, .int .u8 1, .int .u8 0, .int .u8 1, .int .u8 0, .int .u8 3] 5)).alloc (.cells #[.int .i64 0, .int .i64 0, .int .i64 1] 3)) (.slice (some ⟨w5.heap.size + 1, 0, none⟩) 3 3) [0, 0, 1] := by
    have h := lit_ints (w5.alloc (.cells #[.int .u8 2, .int .u8 3, .int .u8 2, .int .u8 1, .int .u8 0, .int .u8 1, .int .u8 0, .int .u8 3] 5)) [0, 0, 1] (by simp)
    rw [World.size_alloc] at h
    exact h
  have HR6 := Lib.hid (show RowsAt (((w5.alloc (.cells #[.int .u8 2, .int .u8 3, .int .u8 2, .int .u8 1, .int .u8 0, .int .u8 1, .int .u8 0, .int .u8 3] 5)).alloc (.cells #[.int .i64 0, .int .i64 0, .int .i64 1] 3)).alloc (.cells #[.slice (some ⟨w5.heap.size + 1, 0, none⟩) 3 3] 39)) (.slice (some ⟨w5.heap.size + 1 + 1, 0, none⟩) 1 1) [(.slice (some ⟨w5.heap.size + 1, 0, none⟩) 3 3, [0, 0, 1])] by
    have h := lit_rows ((w5.alloc (.cells #[.int .u8 2, .int .u8 3, .int .u8 2, .int .u8 1, .int .u8 0, .int .u8 1, .int .u8 0, .int .u8 3] 5)).alloc (.cells #[.int .i64 0, .int .i64 0, .int .i64 1] 3)) [(.slice (some ⟨w5.heap.size + 1, 0, none⟩) 3 3, [0, 0, 1])] (fun p hp => by rw [List.mem_singleton.1 hp]; exact i6) (by simp)
    simp only [World.size_alloc] at h
    exact h)
  have HC6 := Lib.hid (show Calls Try.prog 19 #[.slice (some ⟨w5.heap.size + 1 + 1, 0, none⟩) 1 1] (((w5.alloc (.cells #[.int .u8 2, .int .u8 3, .int .u8 2, .int .u8 1, .int .u8 0, .int .u8 1, .int .u8 0, .int .u8 3] 5)).alloc (.cells #[.int .i64 0, .int .i64 0, .int .i64 1] 3)).alloc (.cells #[.slice (some ⟨w5.heap.size + 1, 0, none⟩) 3 3] 39)) (RetB (.bool true) (((w5.alloc (.cells #[.int .u8 2, .int .u8 3, .int .u8 2, .int .u8 1, .int .u8 0, .int .u8 1, .int .u8 0, .int .u8 3] 5)).alloc (.cells #[.int .i64 0, .int .i64 0, .int .i64 1] 3)).alloc (.cells #[.slice (some ⟨w5.heap.size + 1, 0, none⟩) 3 3] 39))) from by
    have h := alone_any _ _ _ HR6.out (by intro p hp; rw [List.mem_singleton.1 hp]; simp)
    rw [show (rowsOf [(.slice (some ⟨w5.heap.size + 1, 0, none⟩) 3 3, [0, 0, 1])]).all aloneB = true from alone_ex1] at h
    exact h)
  clear i6
  have HB6 := Lib.hid (show Below w.heap.size w (((w5.alloc (.cells #[.int .u8 2, .int .u8 3, .int .u8 2, .int .u8 1, .int .u8 0, .int .u8 1, .int .u8 0, .int .u8 3] 5)).alloc (.cells #[.int .i64 0, .int .i64 0, .int .i64 1] 3)).alloc (.cells #[.slice (some ⟨w5.heap.size + 1, 0, none⟩) 3 3] 39)) from ((HB5.out.alloc HB5.out.size _).alloc (Nat.le_trans HB5.out.size (by simp)) _).alloc (Nat.le_trans HB5.out.size (by simp; omega)) _)
  clear hl6 hv5
  go_wp2_with fail
  refine HC6.out.mono ?_
  rintro e w9 ⟨rfl, hb9⟩
  have HB9 := Lib.hid (HB6.out.trans (hb9.mono HB6.out.size))
  clear e1 e2 hb9
  have i9 : IntsAt (w9.alloc (.cells #[.int .i64 1, .int .i64 0, .int .i64 1] 3)) (.slice (some ⟨w9.heap.size, 0, none⟩) 3 3) [1, 0, 1] := by
    have h := lit_ints w9 [1, 0, 1] (by simp)
    exact h
  have HR9 := Lib.hid (show RowsAt ((w9.alloc (.cells #[.int .i64 1, .int .i64 0, .int .i64 1] 3)).alloc (.cells #[.slice (some ⟨w9.heap.size, 0, none⟩) 3 3] 39)) (.slice (some ⟨w9.heap.size + 1, 0, none⟩) 1 1) [(.slice (some ⟨w9.heap.size, 0, none⟩) 3 3, [1, 0, 1])] by
    have h := lit_rows (w9.alloc (.cells #[.int .i64 1, .int .i64 0, .int .i64 1] 3)) [(.slice (some ⟨w9.heap.size, 0, none⟩) 3 3, [1, 0, 1])] (fun p hp => by rw [List.mem_singleton.1 hp]; exact i9) (by simp)
    simp only [World.size_alloc] at h
    exact h)
  have HC9 := Lib.hid (show Calls Try.prog 19 #[.slice (some ⟨w9.heap.size + 1, 0, none⟩) 1 1] ((w9.alloc (.cells #[.int .i64 1, .int .i64 0, .int .i64 1] 3)).alloc (.cells #[.slice (some ⟨w9.heap.size, 0, none⟩) 3 3] 39)) (RetB (.bool false) ((w9.alloc (.cells #[.int .i64 1, .int .i64 0, .int .i64 1] 3)).alloc (.cells #[.slice (some ⟨w9.heap.size, 0, none⟩) 3 3] 39))) from by
    have h := alone_any _ _ _ HR9.out (by intro p hp; rw [List.mem_singleton.1 hp]; simp)
    rw [show (rowsOf [(.slice (some ⟨w9.heap.size, 0, none⟩) 3 3, [1, 0, 1])]).all aloneB = false from alone_ex2] at h
    exact h)
  clear i9
  have HB10 := Lib.hid (show Below w.heap.size w ((w9.alloc (.cells #[.int .i64 1, .int .i64 0, .int .i64 1] 3)).alloc (.cells #[.slice (some ⟨w9.heap.size, 0, none⟩) 3 3] 39)) from (HB9.out.alloc HB9.out.size _).alloc (Nat.le_trans HB9.out.size (by simp)) _)
  go_wp2_with fail
  refine HC9.out.mono ?_
  rintro e w11 ⟨rfl, hb11⟩
  have HB11 := Lib.hid (HB10.out.trans (hb11.mono HB10.out.size))
  clear hb11
  go_wp2_with fail
  go_ret
  exact ⟨rfl, HB11.out⟩
end Go.Proofs.Ytaffcpjhaacadaa
