/-
  Has of the document, hasCore, isWhole, wantOf, compareUnits of the program.
  Conditions: the numbers are of their kinds.
-/
import Derived.Test.YtpjmdnhoiobedaaPlans
import Derived.Test.YtpjmdnhoiobedaaPlain
import Derived.Test.YtpjmdnhoiobedaaOrdCmp
set_option linter.unusedVariables false
namespace Go.Proofs.Ytpjmdnhoiobedaa
open Go.RowKit Go.Sort

theorem hasB_core {m : Nat} {c : Int} (h : 0 ≤ c ∧ c < 16) : hasB m c = hasC m c := by
  obtain ⟨C, rfl⟩ := Int.eq_ofNat_of_zero_le h.1
  rw [hasB_nat (by omega), hasC_nat (by omega)]
theorem conv32 (m : Nat) (hm : m < 4294967296) : IntKind.u64.wrap (m : Int) = (m : Int) := by rw [IntKind.wrap_u64]; omega

set_option maxHeartbeats 1000000 in
theorem refHasC_any (f : Int) (m : Nat) (v : Value) (c : Int) (w : World) (hm : m < 4294967296) :
    Calls Try.prog 48 #[planA f m v, .int .i64 c] w (RetB (.bool (hasC m c)) w) := by
  have hconv := conv32 m hm
  obtain ⟨w1, P, hw1, hP, hPl, hb1, hbox⟩ := box_any w #[.int .i64 f, .int .u32 m, v] 25
  have HB1 := Lib.hid hb1
  obtain ⟨r0, r1, r2⟩ := three_heads hbox
  clear hb1 hbox
  unfold planA
  by_cases h0 : 0 ≤ c
  · by_cases h1 : c ≤ 15
    · have HH := Lib.hid (fun W => refHas_any m c W (by omega))
      rw [hasB_core ⟨h0, by omega⟩] at HH
      generalize hasC m c = r at *
      go_enter Try.func48, Try.ntmps48
      go_wp2_with (go_at_call 51; refine (HH.out _).mono ?_; rintro e w' ⟨rfl, rfl⟩)
      go_ret
      exact ⟨rfl, HB1.out⟩
    · rw [hasC_out (by omega)]
      have h1' : decide (c ≤ 15) = false := decide_eq_false h1
      go_enter Try.func48, Try.ntmps48
      go_wp2
      go_ret
      exact ⟨rfl, HB1.out⟩
  · rw [hasC_out (by omega)]
    have h0' : decide (0 ≤ c) = false := decide_eq_false h0
    go_enter Try.func48, Try.ntmps48
    go_wp2
    go_ret
    exact ⟨rfl, HB1.out⟩

set_option maxHeartbeats 1000000 in
theorem hasCore_any (f : Int) (m : Nat) (v : Value) (c : Int) (w : World) (hm : m < 4294967296) :
    Calls Try.prog 63 #[planA f m v, .int .i64 c] w (RetB (.bool (hasC m c)) w) := by
  have hconv := conv32 m hm
  obtain ⟨w1, P, hw1, hP, hPl, hb1, hbox⟩ := box_any w #[.int .i64 f, .int .u32 m, v] 25
  have HB1 := Lib.hid hb1
  obtain ⟨r0, r1, r2⟩ := three_heads hbox
  clear hb1 hbox
  unfold planA
  by_cases h1 : c < 16
  · have HH := Lib.hid (fun W => has_any m c W (by omega))
    have e : hasB m c = hasC m c := by
      by_cases h0 : 0 ≤ c
      · exact hasB_core ⟨h0, h1⟩
      · rw [hasB_out (by omega), hasC_out (by omega)]
    rw [e] at HH
    generalize hasC m c = r at *
    go_enter Try.func63, Try.ntmps63
    go_wp2_with (go_at_call 70; refine (HH.out _).mono ?_; rintro e w' ⟨rfl, rfl⟩)
    go_ret
    exact ⟨rfl, HB1.out⟩
  · rw [hasC_out (by omega)]
    have h1' : decide (c < 16) = false := decide_eq_false h1
    go_enter Try.func63, Try.ntmps63
    go_wp2
    go_ret
    exact ⟨rfl, HB1.out⟩

set_option maxHeartbeats 1000000 in
theorem isWhole_any (F : Nat → Prop) (A : Option Addr) (n d : Nat) (x : Pl) (w : World) :
    Calls Try.prog 45 #[plA (.slice A n d) x] w (RetB (.bool (decide (n = 0))) w) := by
  obtain ⟨w1, P, hw1, hP, hPl, hb1, hbox⟩ := box_any w #[.int .i64 x.u, .int .i64 x.s, .int .i64 x.c, .slice A n d] 56
  have HB1 := Lib.hid hb1
  obtain ⟨r0, r1, r2, r3⟩ := four_heads hbox
  clear hb1 hbox
  unfold plA
  cases hn : decide (n = 0) with
  | true =>
    have hz : ((n : Int) == 0) = true := by have := of_decide_eq_true hn; subst this; rfl
    clear hn
    go_enter Try.func45, Try.ntmps45
    go_wp2
    go_ret
    exact ⟨rfl, HB1.out⟩
  | false =>
    have hz : ((n : Int) == 0) = false := by have := of_decide_eq_false hn; simpa using this
    clear hn
    go_enter Try.func45, Try.ntmps45
    go_wp2
    go_ret
    exact ⟨rfl, HB1.out⟩

set_option maxHeartbeats 1000000 in
theorem compareUnits_any (v v' : Value) (x y : Pl) (w : World) :
    Calls Try.prog 62 #[plA v x, plA v' y] w (RetB (.int .i64 (cmpI x.u y.u)) w) := by
  obtain ⟨w1, P, hw1, hP, hPl, hb1, hbox⟩ := box_any w #[.int .i64 x.u, .int .i64 x.s, .int .i64 x.c, v] 56
  obtain ⟨w2, Q, hw2, hQ, hQl, hb2, hbox2⟩ := box_any w1 #[.int .i64 y.u, .int .i64 y.s, .int .i64 y.c, v'] 56
  have HB1 := Lib.hid (hb1.trans (hb2.mono hb1.size))
  obtain ⟨r0, _, _, _⟩ := four_heads (keep_block hbox hb2)
  obtain ⟨q0, _, _, _⟩ := four_heads hbox2
  have HC := Lib.hid (fun W => compareInt_any x.u y.u W)
  generalize cmpI x.u y.u = r at *
  clear hb1 hbox hb2 hbox2
  unfold plA
  go_enter Try.func62, Try.ntmps62
  go_wp2_with (go_at_call 56; refine (HC.out _).mono ?_; rintro e w' ⟨rfl, rfl⟩)
  go_ret
  exact ⟨rfl, HB1.out⟩

set_option maxHeartbeats 1000000 in
theorem wantOf_any (v : Value) (x : Pl) (w : World) :
    Calls Try.prog 46 #[plA v x] w (RetB (.agg #[.int .i64 x.u, .int .i64 x.s]) w) := by
  obtain ⟨w1, P, hw1, hP, hPl, hb1, hbox⟩ := box_any w #[.int .i64 x.u, .int .i64 x.s, .int .i64 x.c, v] 56
  obtain ⟨r0, r1, r2, r3⟩ := four_heads hbox
  have HB1 := Lib.hid hb1
  clear hb1 hbox
  unfold plA
  go_enter Try.func46, Try.ntmps46
  go_wp2_with fail
  refine bodyPost_ret (v := .agg #[.int .i64 x.u, .int .i64 x.s]) (results_cell_row rfl _ _ w1.heap.size _ _ _ _ rfl (heap_alloc_new w1 _) Try.underlying58 rfl (Try.sizeWt _ _)) rfl ?_
  exact ⟨rfl, HB1.out.trans ((Below.refl _ w1).alloc HB1.out.size _)⟩
end Go.Proofs.Ytpjmdnhoiobedaa
