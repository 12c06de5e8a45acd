/-
  Of no reader nothing is read.
  Conditions: none.
-/
import Derived.Test.YtjcnkpghbmphfaaReader
set_option linter.unusedVariables false
namespace Go.Proofs.Ytjcnkpghbmphfaa
open Go.RowKit

theorem nil_err (w : World) : Calls Try.prog 17 #[.pointer none] w (Ret (.int .i64 2) w) := by
  go_enter Try.func17, Try.ntmps17
  go_wp2
  go_ret
  exact ⟨rfl, rfl⟩
theorem nil_left (w : World) : Calls Try.prog 16 #[.pointer none] w (Ret (.int .i64 0) w) := by
  go_enter Try.func16, Try.ntmps16
  go_wp2
  go_ret
  exact ⟨rfl, rfl⟩
theorem nil_num (m : Int) (w : World) : Calls Try.prog 13 #[.pointer none, .int .u64 m] w (Ret (.int .u64 0) w) := by
  have HE := Lib.hid (nil_err w)
  go_enter Try.func13, Try.ntmps13
  go_wp2_with (go_at_call 17; refine HE.out.mono ?_; rintro e w' ⟨rfl, rfl⟩)
  go_ret
  exact ⟨rfl, rfl⟩
theorem nil_raw (n : Int) (w : World) : Calls Try.prog 15 #[.pointer none, .int .i64 n] w (Ret (.slice none 0 0) w) := by
  have HE := Lib.hid (nil_err w)
  go_enter Try.func15, Try.ntmps15
  go_wp2_with (go_at_call 17; refine HE.out.mono ?_; rintro e w' ⟨rfl, rfl⟩)
  go_ret
  exact ⟨rfl, rfl⟩
theorem nil_end (w : World) : Calls Try.prog 14 #[.pointer none] w (Ret (.int .i64 2) w) := by
  have HE := Lib.hid (nil_err w)
  go_enter Try.func14, Try.ntmps14
  go_wp2_with (go_at_call 17; refine HE.out.mono ?_; rintro e w' ⟨rfl, rfl⟩)
  go_ret
  exact ⟨rfl, rfl⟩
end Go.Proofs.Ytjcnkpghbmphfaa
