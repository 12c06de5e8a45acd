/-
  The reference's numbers and link texts: Num is strconv's Itoa, One is a link's text.
  Conditions: the numbers are ints.
-/
import Derived.Test.YtciebpijdgdcjaaDoorText
import Derived.Deep.QuietTactic
import Derived.BigQuiet
namespace Go.Proofs.YtciebpijdgdcjaaDoor
open Go.RowKit Go.Extern.Stop Go.Stop Go.Extern

theorem dig (d : Nat) (h : d < 10) : (ByteArray.mk #[48, 49, 50, 51, 52, 53, 54, 55, 56, 57]).extract d (d + 1) = ⟨(Lib.decDigits d).toArray⟩ := by
  rw [Lib.decDigits_one h]
  have : ∀ d : Fin 10, (ByteArray.mk #[48, 49, 50, 51, 52, 53, 54, 55, 56, 57]).extract d.val (d.val + 1) = ⟨[UInt8.ofNat (48 + d.val)].toArray⟩ := by decide +kernel
  exact this ⟨d, h⟩

theorem whole_add (u : Int) (h0 : 10 ≤ u) (h1 : u < 10 ^ 21) (d : Nat) (hd : u % 10 = (d : Int)) (W : World) :
    (Op.stringOp .add ⟨(Lib.decDigits (u / 10).toNat).toArray⟩ ((ByteArray.mk #[48, 49, 50, 51, 52, 53, 54, 55, 56, 57]).extract d (d + 1))).run Tryd.prog W = .ok (.string ⟨(Lib.decDigits u.toNat).toArray⟩) W := by
  have hd9 : d < 10 := by omega
  have hl := decDigits_len 20 (u / 10).toNat (by omega)
  have hl2 := decDigits_len 0 d (by omega)
  rw [dig d hd9, run_string_add_sum W _ _ (by rw [size_mk, size_mk]; omega), ByteArray.mk_append_mk]
  have e : Lib.decDigits u.toNat = Lib.decDigits (u / 10).toNat ++ Lib.decDigits d := by
    rw [Lib.decDigits_one hd9]
    rw [Lib.decDigits, dif_neg (by omega)]
    have e1 : u.toNat / 10 = (u / 10).toNat := by omega
    have e2 : u.toNat % 10 = d := by omega
    rw [e1, e2]
  rw [e]

set_option maxRecDepth 100000 in
set_option maxHeartbeats 2000000 in
theorem whole_any (k : Nat) : ∀ (u : Int) (w : World), 0 ≤ u → u < 10 ^ (k + 1) → u ≤ 18446744073709551615 →
    Calls Tryd.prog 41 #[.int .u64 u] w fun e w' => e = .returned (.string ⟨(Lib.decDigits u.toNat).toArray⟩) ∧ w = w' := by
  induction k with
  | zero =>
    intro u w h0 h1 h2
    have hlt : u < 10 := by simpa using h1
    obtain ⟨d, hd⟩ : ∃ d, u % 10 = d := ⟨_, rfl⟩
    have hc : d = 0 ∨ d = 1 ∨ d = 2 ∨ d = 3 ∨ d = 4 ∨ d = 5 ∨ d = 6 ∨ d = 7 ∨ d = 8 ∨ d = 9 := by omega
    have hud : u = d := by omega
    have HU := Lib.hid hud
    clear h1 h2 hud
    rcases hc with rfl | rfl | rfl | rfl | rfl | rfl | rfl | rfl | rfl | rfl
    all_goals
      go_enter Tryd.func41, Tryd.ntmps41
      go_wp2
      go_ret
      refine ⟨?_, rfl⟩
      rw [HU.out]
      exact congrArg (fun s => Ending.returned (Value.string s)) (dig _ (by omega))
  | succ k ih =>
    intro u w h0 h1 h2
    by_cases hlt : u < 10
    · obtain ⟨d, hd⟩ : ∃ d, u % 10 = d := ⟨_, rfl⟩
      have hc : d = 0 ∨ d = 1 ∨ d = 2 ∨ d = 3 ∨ d = 4 ∨ d = 5 ∨ d = 6 ∨ d = 7 ∨ d = 8 ∨ d = 9 := by omega
      have hud : u = d := by omega
      have HU := Lib.hid hud
      clear h1 h2 hud ih
      rcases hc with rfl | rfl | rfl | rfl | rfl | rfl | rfl | rfl | rfl | rfl
      all_goals
        go_enter Tryd.func41, Tryd.ntmps41
        go_wp2
        go_ret
        refine ⟨?_, rfl⟩
        rw [HU.out]
        exact congrArg (fun s => Ending.returned (Value.string s)) (dig _ (by omega))
    · have h21 : u < 10 ^ 21 := by omega
      have hI := Lib.hid (ih (u / 10) w (by omega) (by rw [Int.pow_succ] at h1; omega) (by omega))
      obtain ⟨d, hd⟩ : ∃ d, u % 10 = d := ⟨_, rfl⟩
      have hc : d = 0 ∨ d = 1 ∨ d = 2 ∨ d = 3 ∨ d = 4 ∨ d = 5 ∨ d = 6 ∨ d = 7 ∨ d = 8 ∨ d = 9 := by omega
      have hA := Lib.hid (fun (d : Nat) (hd : u % 10 = (d : Int)) => whole_add u (by omega) h21 d hd)
      clear h1 ih h21
      rcases hc with rfl | rfl | rfl | rfl | rfl | rfl | rfl | rfl | rfl | rfl
      all_goals
        have ha := hA.out _ hd
        go_enter Tryd.func41, Tryd.ntmps41
        go_wp2_with (go_at_call 41; refine hI.out.mono ?_; rintro e w' ⟨rfl, rfl⟩)
        go_ret
        exact ⟨rfl, rfl⟩

set_option maxRecDepth 100000 in
set_option maxHeartbeats 2000000 in
theorem num_pos (n : Int) (h0 : 0 ≤ n) (h1 : n ≤ 9223372036854775807) (w : World) :
    Calls Tryd.prog 33 #[.int .i64 n] w fun e w' => e = .returned (.string ⟨(Lib.itoa n).toArray⟩) ∧ w = w' := by
  have hW := Lib.hid (whole_any 20 n w h0 (by omega) (by omega))
  have HI := Lib.hid (show Lib.itoa n = Lib.decDigits n.toNat by rw [Lib.itoa, if_neg (by omega)])
  go_enter Tryd.func33, Tryd.ntmps33
  go_wp2_with (go_at_call 41; refine hW.out.mono ?_; rintro e w' ⟨rfl, rfl⟩)
  go_ret
  exact ⟨by rw [HI.out]; rfl, rfl⟩

theorem wrap_neg (n : Int) (h0 : n < 0) (h1 : -9223372036854775808 ≤ n) : IntKind.u64.wrap (-IntKind.u64.wrap n) = -n := by
  simp only [IntKind.wrap, IntKind.signed, IntKind.bits]
  simp
  omega

set_option maxRecDepth 100000 in
set_option maxHeartbeats 2000000 in
theorem num_neg (n : Int) (h0 : n < 0) (h1 : -9223372036854775808 ≤ n) (w : World) :
    Calls Tryd.prog 33 #[.int .i64 n] w fun e w' => e = .returned (.string ⟨(Lib.itoa n).toArray⟩) ∧ w = w' := by
  have e : IntKind.u64.wrap (-IntKind.u64.wrap n) = -n := wrap_neg n h0 h1
  have hW := Lib.hid (show Calls Tryd.prog 41 #[.int .u64 (IntKind.u64.wrap (-IntKind.u64.wrap n))] w fun e w' => e = .returned (.string ⟨(Lib.decDigits (-n).toNat).toArray⟩) ∧ w = w' by
    rw [e]; exact whole_any 20 (-n) w (by omega) (by omega) (by omega))
  have HI := Lib.hid (show Lib.itoa n = 45 :: Lib.decDigits (-n).toNat by rw [Lib.itoa, if_pos h0]; congr 2; omega)
  have hl := decDigits_len 20 (-n).toNat (by omega)
  have ha : ∀ W, (Op.stringOp .add ⟨#[45]⟩ ⟨(Lib.decDigits (-n).toNat).toArray⟩).run Tryd.prog W = .ok (.string ⟨(Lib.itoa n).toArray⟩) W := fun W => by
    rw [show (ByteArray.mk #[45]) = ByteArray.mk [45].toArray from rfl, run_string_add_sum W _ _ (by rw [size_mk, size_mk]; simp; omega), ByteArray.mk_append_mk, HI.out]
    rfl
  clear e hl
  go_enter Tryd.func33, Tryd.ntmps33
  go_wp2_with (go_at_call 41; refine hW.out.mono ?_; rintro e w' ⟨rfl, rfl⟩)
  go_ret
  exact ⟨rfl, rfl⟩

theorem num_any (n : Int) (h : I64 n) (w : World) :
    Calls Tryd.prog 33 #[.int .i64 n] w fun e w' => e = .returned (.string ⟨(Lib.itoa n).toArray⟩) ∧ w = w' := by
  by_cases h0 : n < 0
  · exact num_neg n h0 h.1 w
  · exact num_pos n (by omega) h.2 w

theorem num_same (n : Int) (h : I64 n) (w : World) :
    Calls Tryd.prog 33 #[.int .i64 n] w fun e w' => e = .returned (.string ⟨(Lib.itoa n).toArray⟩) ∧ w' = w :=
  (num_any n h w).mono fun _ _ h => ⟨h.1, h.2.symm⟩

def One (i : Item) (w : World) (e : Ending) (w' : World) : Prop := e = .returned (.string ⟨(linkText i).toArray⟩) ∧ Below w.heap.size w w'

set_option maxRecDepth 100000 in
set_option maxHeartbeats 2000000 in
theorem one_any (i : Item) (hc : I64 i.code) (hp : I64 i.pos) (hs : i.part.size ≤ 140737488355328) (w : World) :
    Calls Tryd.prog 21 #[.agg #[.int .i64 i.code, .string i.part, .int .i64 i.pos]] w (TextPost i w) := by
  obtain ⟨s1, s2, s3, a1, a2, a3, a4⟩ := link_sums i hc hp hs
  have HC := Lib.hid hc
  have HP := Lib.hid hp
  clear hc hp hs
  go_enter Tryd.func21, Tryd.ntmps21
  go_wp2
  go_quiet ((go_at_call 33; exact Calls.quiet_of_same (num_same _ (by first | exact HP.out | exact HC.out) _)))
  go_wp2
  go_ret
  refine ⟨rfl, ?_⟩
  exact below_drewN ((Below.refl w.heap.size w).alloc (Nat.le_refl _) _) _
end Go.Proofs.YtciebpijdgdcjaaDoor
