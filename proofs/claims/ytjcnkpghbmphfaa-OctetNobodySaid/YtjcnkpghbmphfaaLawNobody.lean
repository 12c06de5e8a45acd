/-
  OctetNobody walked.
  Conditions: none.
-/
import Derived.Test.YtjcnkpghbmphfaaAwake
set_option linter.unusedVariables false
namespace Go.Proofs.Ytjcnkpghbmphfaa
open Go.RowKit

set_option maxRecDepth 100000 in
set_option maxHeartbeats 8000000 in
theorem nobody_law (n : Int) (m : Nat) (w : World) (h1 : -9223372036854775808 ≤ n) (h2 : n ≤ 9223372036854775807) (h3 : m < 18446744073709551616) :
    Calls Try.prog 6 #[.int .i64 n, .int .u64 m] w (RetB (.bool true) w) := by
  have HN := Lib.hid (fun W => nil_num m W)
  have HR := Lib.hid (fun W => nil_raw n W)
  have HLF := Lib.hid (fun W => nil_left W)
  have HER := Lib.hid (fun W => nil_err W)
  have HEN := Lib.hid (fun W => nil_end W)
  have HAW := Lib.hid (fun W => awake_any W)
  go_enter Try.func6, Try.ntmps6
  go_wp2_with (first | (go_at_call 13; refine (HN.out _).mono ?_; rintro e w' ⟨rfl, rfl⟩) | (go_at_call 15; refine (HR.out _).mono ?_; rintro e w' ⟨rfl, rfl⟩) | (go_at_call 16; refine (HLF.out _).mono ?_; rintro e w' ⟨rfl, rfl⟩) | (go_at_call 17; refine (HER.out _).mono ?_; rintro e w' ⟨rfl, rfl⟩) | (go_at_call 14; refine (HEN.out _).mono ?_; rintro e w' ⟨rfl, rfl⟩) | (go_at_call 7; refine (HAW.out _).mono ?_; rintro e w' ⟨rfl, hb⟩))
  go_ret
  exact ⟨rfl, hb⟩

end Go.Proofs.Ytjcnkpghbmphfaa
