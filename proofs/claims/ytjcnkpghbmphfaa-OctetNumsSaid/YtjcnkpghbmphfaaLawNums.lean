/-
  OctetNums walked.
  Conditions: the number is a word; the arguments read as bytes and words.
-/
import Derived.Test.YtjcnkpghbmphfaaAwake
import Derived.Test.YtjcnkpghbmphfaaRefNum
set_option linter.unusedVariables false
namespace Go.Proofs.Ytjcnkpghbmphfaa
open Go.RowKit

set_option maxRecDepth 100000 in
set_option maxHeartbeats 8000000 in
theorem nums_law (bs l : List Nat) (n : Nat) (v u : Value) (w : World) (hv : BytesAt w v bs) (hu : WordsAt w u l) (hn : n < 18446744073709551616) :
    Calls Try.prog 3 #[v, u, .int .u64 n] w (RetB (.bool true) w) := by
  have HAW := Lib.hid (fun W => awake_any W)
  have HN1 := Lib.hid (fun W => num_any n W hn)
  have HN2 := Lib.hid (fun W => refNum_any n n W (Nat.le_refl _) hn)
  have HV := Lib.hid hv
  have HU := Lib.hid hu
  have HP1 := Lib.hid (fun h1 h2 W (hb : Below w.heap.size w W) => put_any v u bs l W (HV.out.keep hb) (HU.out.keep hb) h1 h2)
  have HP2 := Lib.hid (fun h1 h2 W (hb : Below w.heap.size w W) => refPut_any v u bs l W (HV.out.keep hb) (HU.out.keep hb) h1 h2)
  obtain ⟨A1, c1, rfl, _⟩ := hv
  obtain ⟨A2, c2, rfl, _⟩ := hu
  generalize hn1 : bs.length = n1 at *
  generalize hn2 : l.length = n2 at *
  have HE1 := Lib.hid hn1
  have HE2 := Lib.hid hn2
  clear hn1 hn2
  by_cases hg : 1000 < n1 ∨ 100 < n2
  · rcases hg with hg | hg
    · have y1 : 1000 < (n1 : Int) := by omega
      clear hg
      go_enter Try.func3, Try.ntmps3
      go_wp2_with (go_at_call 7; refine (HAW.out _).mono ?_; rintro e w' ⟨rfl, hb⟩)
      go_ret
      exact ⟨rfl, hb⟩
    · have y1 : 100 < (n2 : Int) := by omega
      clear hg
      go_enter Try.func3, Try.ntmps3
      go_wp2_with (go_at_call 7; refine (HAW.out _).mono ?_; rintro e w' ⟨rfl, hb⟩)
      all_goals
        go_ret
        exact ⟨rfl, hb⟩
  · have y1 : ¬ 1000 < (n1 : Int) := by omega
    have y2 : ¬ 100 < (n2 : Int) := by omega
    have HQ1 := Lib.hid (fun W hb => HP1.out (by omega) (by omega) W hb)
    have HQ2 := Lib.hid (fun W hb => HP2.out (by omega) (by omega) W hb)
    clear hg HP1 HP2
    go_enter Try.func3, Try.ntmps3
    go_wp2_with fail
    have HDR := Lib.hid (show Below w.heap.size w w.drew from below_drewN (Below.refl _ _) 1)
    refine wp_region_N (S1 := fun W => Below w.heap.size w W) (S2 := fun _ => True) (N := fun _ => false) (by kernel_rfl) ?_
    change wpAnyN _ _ _ _ _ _ _ 22 (Array.replicate 22 false) _ _
    refine wpAnyN_take false (i := 0) (v := .int .u64 n) rfl (by kernel_rfl) (by kernel_rfl) (by kernel_rfl) (fun _ _ _ h => h) (.inl ⟨by kernel_rfl, fun W hS => ?_⟩) ⟨HDR.out, fun h => by cases h⟩ ?_
    · simp [execOp, Act.eval, go_sem]
    refine wpAnyN_take false (i := 3) (v := .int .u64 n) rfl (by kernel_rfl) (by kernel_rfl) (by kernel_rfl) (fun _ _ _ h => h) (.inl ⟨by kernel_rfl, fun W hS => ?_⟩) ⟨HDR.out, fun h => by cases h⟩ ?_
    · simp [execOp, Act.eval, Act.put, go_sem]
    refine wpAnyN_step (i := 1) (by kernel_rfl) rfl (by kernel_rfl) ?_
    intro K' hK
    try simp only [Act.put]
    go_simp
    refine (HN1.out _).mono ?_
    rintro e w3 ⟨v3, rfl, hown3, hb3⟩
    have HO3 := Lib.hid hown3.bytes
    have HC3 := Lib.hid hb3
    clear hown3 hb3
    have H3 := Lib.hid (HDR.out.trans (HC3.out.mono HDR.out.size))
    refine hK.out _ _ H3.out (fun h => absurd h (by decide)) ?_
    refine wpAnyN_sharp (S1' := fun W => Below w3.heap.size w3 W) (fun W h => H3.out.trans (h.mono H3.out.size)) _ _ _ _ ?_
    refine wpAnyN_take false (i := 2) (v := .string (textOf (enc n))) rfl (by kernel_rfl) (by kernel_rfl) (by kernel_rfl) (fun _ _ _ h => h) (.inl ⟨by kernel_rfl, fun W hS => ?_⟩) ⟨Below.refl _ _, fun h => by cases h⟩ ?_
    · simp [execOp, Act.eval, go_sem, conv_text (HO3.out.keep hS.1) Try.underlying22 Try.underlying5 Try.underlying9]
    refine wpAnyN_step (i := 4) (by kernel_rfl) rfl (by kernel_rfl) ?_
    intro K' hK
    try simp only [Act.put]
    go_simp
    refine (HN2.out _).mono ?_
    rintro e w4 ⟨v4, rfl, hown4, hb4⟩
    have HO4 := Lib.hid hown4.bytes
    have HC4 := Lib.hid hb4
    clear hown4 hb4
    have H4 := Lib.hid (H3.out.trans (HC4.out.mono H3.out.size))
    refine hK.out _ _ HC4.out (fun h => absurd h (by decide)) ?_
    refine wpAnyN_sharp (S1' := fun W => Below w4.heap.size w4 W) (fun W h => HC4.out.trans (h.mono HC4.out.size)) _ _ _ _ ?_
    refine wpAnyN_take false (i := 5) (v := .string (textOf (enc n))) rfl (by kernel_rfl) (by kernel_rfl) (by kernel_rfl) (fun _ _ _ h => h) (.inl ⟨by kernel_rfl, fun W hS => ?_⟩) ⟨Below.refl _ _, fun h => by cases h⟩ ?_
    · simp [execOp, Act.eval, go_sem, conv_text (HO4.out.keep hS.1) Try.underlying22 Try.underlying5 Try.underlying9]
    refine wpAnyN_take false (i := 6) (v := .bool true) rfl (by kernel_rfl) (by kernel_rfl) (by kernel_rfl) (fun _ _ _ h => h) (.inl ⟨by kernel_rfl, fun W hS => ?_⟩) ⟨Below.refl _ _, fun h => by cases h⟩ ?_
    · simp [execOp, Act.eval, Act.put, go_sem]
    refine wpAnyN_take false (i := 7) (v := .bool true) rfl (by kernel_rfl) (by kernel_rfl) (by kernel_rfl) (fun _ _ _ h => h) (.inl ⟨by kernel_rfl, fun W hS => ?_⟩) ⟨Below.refl _ _, fun h => by cases h⟩ ?_
    · simp [execOp, Act.eval, Act.put, go_sem]
    refine wpAnyN_take false (i := 8) (v := .slice A1 n1 c1) rfl (by kernel_rfl) (by kernel_rfl) (by kernel_rfl) (fun _ _ _ h => h) (.inl ⟨by kernel_rfl, fun W hS => ?_⟩) ⟨Below.refl _ _, fun h => by cases h⟩ ?_
    · simp [execOp, Act.eval, Act.put, go_sem]
    refine wpAnyN_take false (i := 9) (v := .slice A2 n2 c2) rfl (by kernel_rfl) (by kernel_rfl) (by kernel_rfl) (fun _ _ _ h => h) (.inl ⟨by kernel_rfl, fun W hS => ?_⟩) ⟨Below.refl _ _, fun h => by cases h⟩ ?_
    · simp [execOp, Act.eval, Act.put, go_sem]
    refine wpAnyN_take false (i := 12) (v := .slice A1 n1 c1) rfl (by kernel_rfl) (by kernel_rfl) (by kernel_rfl) (fun _ _ _ h => h) (.inl ⟨by kernel_rfl, fun W hS => ?_⟩) ⟨Below.refl _ _, fun h => by cases h⟩ ?_
    · simp [execOp, Act.eval, Act.put, go_sem]
    refine wpAnyN_take false (i := 13) (v := .slice A2 n2 c2) rfl (by kernel_rfl) (by kernel_rfl) (by kernel_rfl) (fun _ _ _ h => h) (.inl ⟨by kernel_rfl, fun W hS => ?_⟩) ⟨Below.refl _ _, fun h => by cases h⟩ ?_
    · simp [execOp, Act.eval, Act.put, go_sem]
    refine wpAnyN_step (i := 10) (by kernel_rfl) rfl (by kernel_rfl) ?_
    intro K' hK
    try simp only [Act.put]
    go_simp
    refine (HQ1.out _ H4.out).mono ?_
    rintro e w5 ⟨v5, rfl, hown5, hb5⟩
    have HO5 := Lib.hid hown5.bytes
    have HC5 := Lib.hid hb5
    clear hown5 hb5
    have H5 := Lib.hid (H4.out.trans (HC5.out.mono H4.out.size))
    refine hK.out _ _ HC5.out (fun h => absurd h (by decide)) ?_
    refine wpAnyN_sharp (S1' := fun W => Below w5.heap.size w5 W) (fun W h => HC5.out.trans (h.mono HC5.out.size)) _ _ _ _ ?_
    refine wpAnyN_take false (i := 11) (v := .string (textOf (bs ++ encs l))) rfl (by kernel_rfl) (by kernel_rfl) (by kernel_rfl) (fun _ _ _ h => h) (.inl ⟨by kernel_rfl, fun W hS => ?_⟩) ⟨Below.refl _ _, fun h => by cases h⟩ ?_
    · simp [execOp, Act.eval, go_sem, conv_text (HO5.out.keep hS.1) Try.underlying22 Try.underlying5 Try.underlying9]
    refine wpAnyN_step (i := 14) (by kernel_rfl) rfl (by kernel_rfl) ?_
    intro K' hK
    try simp only [Act.put]
    go_simp
    refine (HQ2.out _ H5.out).mono ?_
    rintro e w6 ⟨v6, rfl, hown6, hb6⟩
    have HO6 := Lib.hid hown6.bytes
    have HC6 := Lib.hid hb6
    clear hown6 hb6
    have H6 := Lib.hid (H5.out.trans (HC6.out.mono H5.out.size))
    refine hK.out _ _ HC6.out (fun h => absurd h (by decide)) ?_
    refine wpAnyN_sharp (S1' := fun W => Below w6.heap.size w6 W) (fun W h => HC6.out.trans (h.mono HC6.out.size)) _ _ _ _ ?_
    refine wpAnyN_take false (i := 15) (v := .string (textOf (bs ++ encs l))) rfl (by kernel_rfl) (by kernel_rfl) (by kernel_rfl) (fun _ _ _ h => h) (.inl ⟨by kernel_rfl, fun W hS => ?_⟩) ⟨Below.refl _ _, fun h => by cases h⟩ ?_
    · simp [execOp, Act.eval, go_sem, conv_text (HO6.out.keep hS.1) Try.underlying22 Try.underlying5 Try.underlying9]
    refine wpAnyN_take false (i := 16) (v := .bool true) rfl (by kernel_rfl) (by kernel_rfl) (by kernel_rfl) (fun _ _ _ h => h) (.inl ⟨by kernel_rfl, fun W hS => ?_⟩) ⟨Below.refl _ _, fun h => by cases h⟩ ?_
    · simp [execOp, Act.eval, Act.put, go_sem]
    refine wpAnyN_take false (i := 17) (v := .bool true) rfl (by kernel_rfl) (by kernel_rfl) (by kernel_rfl) (fun _ _ _ h => h) (.inl ⟨by kernel_rfl, fun W hS => ?_⟩) ⟨Below.refl _ _, fun h => by cases h⟩ ?_
    · simp [execOp, Act.eval, Act.put, go_sem]
    refine wpAnyN_take false (i := 18) (v := .bool true) rfl (by kernel_rfl) (by kernel_rfl) (by kernel_rfl) (fun _ _ _ h => h) (.inl ⟨by kernel_rfl, fun W hS => ?_⟩) ⟨Below.refl _ _, fun h => by cases h⟩ ?_
    · simp [execOp, Act.eval, Act.put, go_sem]
    refine wpAnyN_step (i := 19) (by kernel_rfl) rfl (by kernel_rfl) ?_
    intro K' hK
    try simp only [Act.put]
    go_simp
    refine (HAW.out _).mono ?_
    rintro e w7 ⟨rfl, hb7⟩
    have HC7 := Lib.hid hb7
    clear hb7
    refine hK.out _ _ HC7.out (fun h => absurd h (by decide)) ?_
    refine wpAnyN_sharp (S1' := fun W => Below w7.heap.size w7 W) (fun W h => HC7.out.trans (h.mono HC7.out.size)) _ _ _ _ ?_
    refine wpAnyN_take false (i := 20) (v := .bool true) rfl (by kernel_rfl) (by kernel_rfl) (by kernel_rfl) (fun _ _ _ h => h) (.inl ⟨by kernel_rfl, fun W hS => ?_⟩) ⟨Below.refl _ _, fun h => by cases h⟩ ?_
    · simp [execOp, Act.eval, go_sem]
    refine wpAnyN_take false (i := 21) (v := .bool true) rfl (by kernel_rfl) (by kernel_rfl) (by kernel_rfl) (fun _ _ _ h => h) (.inl ⟨by kernel_rfl, fun W hS => ?_⟩) ⟨Below.refl _ _, fun h => by cases h⟩ ?_
    · simp [execOp, Act.eval, Act.put, go_sem]
    refine wpAnyN_done (by kernel_rfl) ?_
    try simp only [Act.put]
    try go_simp
    go_wp2
    go_ret
    exact ⟨rfl, H6.out.trans (HC7.out.mono H6.out.size)⟩
end Go.Proofs.Ytjcnkpghbmphfaa
