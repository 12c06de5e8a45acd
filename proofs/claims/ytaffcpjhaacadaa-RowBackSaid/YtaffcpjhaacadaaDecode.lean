/-
  The program's Decode.
  Conditions: no more than 900000 bytes.
-/
import Derived.Test.YtaffcpjhaacadaaReadRuns
import Derived.Test.YtaffcpjhaacadaaEnd
import Derived.Test.YtaffcpjhaacadaaRefValue
set_option linter.unusedVariables false
namespace Go.Proofs.Ytaffcpjhaacadaa
open Go.RowKit

/-- What Decode answers. -/
def DecP (bs : List Nat) (w : World) (e : Ending) (w' : World) : Prop :=
  ∃ m v ok ls, e = .returned (.tuple #[.int .i64 m, v, .int .i64 (if ok = true then 0 else 3)]) ∧ IsDec bs m (rowsOf ls) ok ∧ RowsAt w' v ls ∧ Below w.heap.size w w'

set_option maxRecDepth 100000 in
set_option maxHeartbeats 4000000 in
theorem decode_any (v : Value) (bs : List Nat) (w : World) (hv : BytesAt w v bs) (hl : bs.length ≤ 900000) : Calls Try.prog 13 #[v] w (DecP bs w) := by
  have HOP := Lib.hid (open_any v bs w hl hv)
  have HFS := Lib.hid (fits_start (bs := bs))
  have HGS := Lib.hid (goes_start hv.bytes)
  obtain ⟨n1, bs1, e1, t1⟩ : ∃ n b e, numT bs 0 16 = (n, b, e) := ⟨_, _, _, rfl⟩
  rw [t1] at HFS HGS
  simp only at HFS HGS
  obtain ⟨n2, bs2, e2, t2⟩ : ∃ n b e, numT bs1 e1 4096 = (n, b, e) := ⟨_, _, _, rfl⟩
  rw [t2] at HFS HGS
  simp only at HFS HGS
  have l1 : n1 ≤ 16 := by have := numT_le bs 0 16; rwa [t1] at this
  have l2 : n2 ≤ 4096 := by have := numT_le bs1 e1 4096; rwa [t2] at this
  have HT1 := Lib.hid t1
  have HT2 := Lib.hid t2
  have w1' : IntKind.i64.wrap (n1 : Int) = (n1 : Int) := by rw [IntWalk.i64_in _ (by omega)]
  have w2' : IntKind.i64.wrap (n2 : Int) = (n2 : Int) := by rw [IntWalk.i64_in _ (by omega)]
  clear hv t1 t2
  go_enter Try.func13, Try.ntmps13
  go_wp2_with fail
  refine HOP.out.mono ?_
  rintro x w2 ⟨g, rfl, hg, hb2, hr2⟩
  have HGW := Lib.hid hg
  have HB2 := Lib.hid hb2
  have HN3 := Lib.hid (read_any g bs 0 16 w2 (by decide) hr2)
  rw [HT1.out] at HN3
  clear hg hb2 hr2
  go_wp2_with fail
  refine HN3.out.mono ?_
  rintro x w3 ⟨rfl, ha3, hr3⟩
  have HA3 := Lib.hid ha3
  have HN4 := Lib.hid (read_any g bs1 e1 4096 w3 (by decide) hr3)
  rw [HT2.out] at HN4
  clear ha3 hr3
  go_wp2_with fail
  refine HN4.out.mono ?_
  rintro x w4 ⟨rfl, ha4, hr4⟩
  have HA4 := Lib.hid (HA3.out.trans ha4 (fun _ _ h => h))
  have HRU := Lib.hid (readRuns_any g n1 n2 bs bs2 e2 w4 hr4 l1 l2 HFS.out HGS.out)
  clear ha4 hr4
  go_wp2_with fail
  refine HRU.out.mono ?_
  rintro x w5 ⟨v5, ok, ls, b5, e5, rfl, ha5, hr5, hown5, hyes, hno⟩
  obtain ⟨A5, c5, rfl⟩ := hown5.form
  have HB5 := Lib.hid (show Below w.heap.size w w5 from by
    have h := HA4.out.trans ha5 (fun _ _ h => h)
    exact HB2.out.trans (h.below (Nat.le_trans HB2.out.size (Nat.le_refl _)) (fun k hk e => by have := HGW.out; omega)))
  have HO5 := Lib.hid hown5
  have HYES := Lib.hid hyes
  have HNO := Lib.hid hno
  have HEND := Lib.hid (end_any g b5 e5 w5 hr5)
  obtain ⟨E, hE⟩ : ∃ E, E = endI b5 e5 := ⟨_, rfl⟩
  rw [← hE] at HEND
  have HE := Lib.hid hE
  simp only
  clear ha5 hr5 hown5 hyes hno hE
  by_cases hE0 : E = 0
  · subst hE0
    by_cases hm0 : n1 = 0
    · have hm0z : ((n1 : Int) == 0) = true := by simp; omega
      have HD := Lib.hid (show NoDec bs by
        cases ok with
        | false => exact HNO.out rfl
        | true =>
          obtain ⟨h1, h2, _⟩ := HYES.out rfl
          intro n S hS he
          obtain ⟨h3, _⟩ := fits_end h2 (by rw [rowsOf_length]; omega) hS he
          have := hS.m1
          omega)
      clear hm0
      go_wp2_with (go_at_call 29; refine HEND.out.mono ?_; rintro x w6 ⟨rfl, rfl⟩)
      go_ret3
      exact ⟨0, _, false, [], rfl, .inr ⟨rfl, rfl, rfl, HD.out⟩, RowsAt.nil _, HB5.out⟩
    · have hm0z : ((n1 : Int) == 0) = false := by simp; omega
      have HM0 := Lib.hid hm0
      clear hm0
      cases ok with
      | false =>
        have HD := Lib.hid (HNO.out rfl)
        go_wp2_with (go_at_call 29; refine HEND.out.mono ?_; rintro x w6 ⟨rfl, rfl⟩)
        go_ret3
        exact ⟨0, _, false, [], rfl, .inr ⟨rfl, rfl, rfl, HD.out⟩, RowsAt.nil _, HB5.out⟩
      | true =>
        have HD := Lib.hid (show IsDec bs (n1 : Int) (rowsOf ls) true by
          obtain ⟨h1, h2, h3⟩ := HYES.out rfl
          rw [← h1, ← rowsOf_length] at h3
          exact goes_end h3 HE.out.symm HM0.out l1 (by rw [rowsOf_length]; omega))
        go_wp2_with (go_at_call 29; refine HEND.out.mono ?_; rintro x w6 ⟨rfl, rfl⟩)
        go_ret3
        exact ⟨n1, _, true, ls, rfl, HD.out, HO5.out.at_, HB5.out⟩
  · have hE0z : (E == 0) = false := by simpa using hE0
    have hE0y : (E != 0) = true := by simpa using hE0
    have HD := Lib.hid (show NoDec bs by
      cases ok with
      | false => exact HNO.out rfl
      | true =>
        obtain ⟨h1, h2, _⟩ := HYES.out rfl
        intro n S hS he
        obtain ⟨_, _, h3⟩ := fits_end h2 (by rw [rowsOf_length]; omega) hS he
        exact hE0 (HE.out.trans h3))
    clear hE0
    go_wp2_with (go_at_call 29; refine HEND.out.mono ?_; rintro x w6 ⟨rfl, rfl⟩)
    go_ret3
    exact ⟨0, _, false, [], rfl, .inr ⟨rfl, rfl, rfl, HD.out⟩, RowsAt.nil _, HB5.out⟩
end Go.Proofs.Ytaffcpjhaacadaa
