/-
  A ring that nobody made has nothing, and takes nobody; the law of that.
  Conditions: none.
-/
import Derived.Test.YtanchjcifhbllaaAwake
set_option linter.unusedVariables false
namespace Go.Proofs.Ytanchjcifhbllaa
open Go.RowKit Go.Sort

theorem first_nil (W : World) : Calls Try.prog 29 #[.pointer none] W (Ret (.int .i64 (-1)) W) := by
  have HM := Lib.hid (fun W' (e : W' = W) => show Calls Try.prog 31 _ W' (Ret _ W') from by subst e; exact isMade_nil _)
  go_enter Try.func29, Try.ntmps29
  go_wp2_with (go_at_call 31; refine (HM.out _ rfl).mono ?_; rintro e w' ⟨rfl, rfl⟩)
  go_ret
  exact ⟨rfl, rfl⟩
theorem first_bare (W : World) (rb : Nat) (h : Bare W rb) : Calls Try.prog 29 #[.pointer (some ⟨rb, 0, none⟩)] W (Ret (.int .i64 (-1)) W) := by
  have HM := Lib.hid (fun W' (e : W' = W) => show Calls Try.prog 31 _ W' (Ret _ W') from by subst e; exact isMade_bare _ rb h)
  clear h
  go_enter Try.func29, Try.ntmps29
  go_wp2_with (go_at_call 31; refine (HM.out _ rfl).mono ?_; rintro e w' ⟨rfl, rfl⟩)
  go_ret
  exact ⟨rfl, rfl⟩
theorem next_nil (W : World) : Calls Try.prog 19 #[.pointer none] W (Ret (.tuple #[.int .i64 0, .bool false]) W) := by
  have HM := Lib.hid (fun W' (e : W' = W) => show Calls Try.prog 29 _ W' (Ret _ W') from by subst e; exact first_nil _)
  go_enter Try.func19, Try.ntmps19
  go_wp2_with (go_at_call 29; refine (HM.out _ rfl).mono ?_; rintro e w' ⟨rfl, rfl⟩)
  go_ret2
  exact ⟨rfl, rfl⟩
theorem next_bare (W : World) (rb : Nat) (h : Bare W rb) : Calls Try.prog 19 #[.pointer (some ⟨rb, 0, none⟩)] W (Ret (.tuple #[.int .i64 0, .bool false]) W) := by
  have HM := Lib.hid (fun W' (e : W' = W) => show Calls Try.prog 29 _ W' (Ret _ W') from by subst e; exact first_bare _ rb h)
  clear h
  go_enter Try.func19, Try.ntmps19
  go_wp2_with (go_at_call 29; refine (HM.out _ rfl).mono ?_; rintro e w' ⟨rfl, rfl⟩)
  go_ret2
  exact ⟨rfl, rfl⟩
theorem pick_nil (W : World) : Calls Try.prog 15 #[.pointer none] W (Ret (.tuple #[.int .i64 0, .bool false]) W) := by
  have HM := Lib.hid (fun W' (e : W' = W) => show Calls Try.prog 29 _ W' (Ret _ W') from by subst e; exact first_nil _)
  go_enter Try.func15, Try.ntmps15
  go_wp2_with (go_at_call 29; refine (HM.out _ rfl).mono ?_; rintro e w' ⟨rfl, rfl⟩)
  go_ret2
  exact ⟨rfl, rfl⟩
theorem pick_bare (W : World) (rb : Nat) (h : Bare W rb) : Calls Try.prog 15 #[.pointer (some ⟨rb, 0, none⟩)] W (Ret (.tuple #[.int .i64 0, .bool false]) W) := by
  have HM := Lib.hid (fun W' (e : W' = W) => show Calls Try.prog 29 _ W' (Ret _ W') from by subst e; exact first_bare _ rb h)
  clear h
  go_enter Try.func15, Try.ntmps15
  go_wp2_with (go_at_call 29; refine (HM.out _ rfl).mono ?_; rintro e w' ⟨rfl, rfl⟩)
  go_ret2
  exact ⟨rfl, rfl⟩
theorem lead_nil (W : World) (id : Int) : Calls Try.prog 17 #[.pointer none, .int .i64 id] W (Ret (.tuple #[.int .u64 0, .int .u64 0, .bool false]) W) := by
  have HM := Lib.hid (fun W' (e : W' = W) => show Calls Try.prog 32 _ W' (Ret _ W') from by subst e; exact seek_nil _ id)
  go_enter Try.func17, Try.ntmps17
  go_wp2_with (go_at_call 32; refine (HM.out _ rfl).mono ?_; rintro e w' ⟨rfl, rfl⟩)
  go_returns
  exact ⟨rfl, rfl⟩
theorem lead_bare (W : World) (rb : Nat) (h : Bare W rb) (id : Int) : Calls Try.prog 17 #[.pointer (some ⟨rb, 0, none⟩), .int .i64 id] W (Ret (.tuple #[.int .u64 0, .int .u64 0, .bool false]) W) := by
  have HM := Lib.hid (fun W' (e : W' = W) => show Calls Try.prog 32 _ W' (Ret _ W') from by subst e; exact seek_bare _ rb id h)
  clear h
  go_enter Try.func17, Try.ntmps17
  go_wp2_with (go_at_call 32; refine (HM.out _ rfl).mono ?_; rintro e w' ⟨rfl, rfl⟩)
  go_returns
  exact ⟨rfl, rfl⟩
theorem join_nil (W : World) (id w : Int) : Calls Try.prog 20 #[.pointer none, .int .i64 id, .int .i64 w] W (Ret (.int .i64 2) W) := by
  have HM := Lib.hid (fun W' (e : W' = W) => show Calls Try.prog 31 _ W' (Ret _ W') from by subst e; exact isMade_nil _)
  go_enter Try.func20, Try.ntmps20
  go_wp2_with (go_at_call 31; refine (HM.out _ rfl).mono ?_; rintro e w' ⟨rfl, rfl⟩)
  go_ret
  exact ⟨rfl, rfl⟩
theorem join_bare (W : World) (rb : Nat) (h : Bare W rb) (id w : Int) : Calls Try.prog 20 #[.pointer (some ⟨rb, 0, none⟩), .int .i64 id, .int .i64 w] W (Ret (.int .i64 2) W) := by
  have HM := Lib.hid (fun W' (e : W' = W) => show Calls Try.prog 31 _ W' (Ret _ W') from by subst e; exact isMade_bare _ rb h)
  clear h
  go_enter Try.func20, Try.ntmps20
  go_wp2_with (go_at_call 31; refine (HM.out _ rfl).mono ?_; rintro e w' ⟨rfl, rfl⟩)
  go_ret
  exact ⟨rfl, rfl⟩
theorem leave_nil (W : World) (id : Int) : Calls Try.prog 21 #[.pointer none, .int .i64 id] W (Ret (.int .i64 2) W) := by
  have HM := Lib.hid (fun W' (e : W' = W) => show Calls Try.prog 32 _ W' (Ret _ W') from by subst e; exact seek_nil _ id)
  go_enter Try.func21, Try.ntmps21
  go_wp2_with (go_at_call 32; refine (HM.out _ rfl).mono ?_; rintro e w' ⟨rfl, rfl⟩)
  go_ret
  exact ⟨rfl, rfl⟩
theorem leave_bare (W : World) (rb : Nat) (h : Bare W rb) (id : Int) : Calls Try.prog 21 #[.pointer (some ⟨rb, 0, none⟩), .int .i64 id] W (Ret (.int .i64 2) W) := by
  have HM := Lib.hid (fun W' (e : W' = W) => show Calls Try.prog 32 _ W' (Ret _ W') from by subst e; exact seek_bare _ rb id h)
  clear h
  go_enter Try.func21, Try.ntmps21
  go_wp2_with (go_at_call 32; refine (HM.out _ rfl).mono ?_; rintro e w' ⟨rfl, rfl⟩)
  go_ret
  exact ⟨rfl, rfl⟩
theorem block_nil (W : World) (id : Int) : Calls Try.prog 22 #[.pointer none, .int .i64 id] W (Ret (.int .i64 2) W) := by
  have HM := Lib.hid (fun W' (e : W' = W) => show Calls Try.prog 32 _ W' (Ret _ W') from by subst e; exact seek_nil _ id)
  go_enter Try.func22, Try.ntmps22
  go_wp2_with (go_at_call 32; refine (HM.out _ rfl).mono ?_; rintro e w' ⟨rfl, rfl⟩)
  go_ret
  exact ⟨rfl, rfl⟩
theorem block_bare (W : World) (rb : Nat) (h : Bare W rb) (id : Int) : Calls Try.prog 22 #[.pointer (some ⟨rb, 0, none⟩), .int .i64 id] W (Ret (.int .i64 2) W) := by
  have HM := Lib.hid (fun W' (e : W' = W) => show Calls Try.prog 32 _ W' (Ret _ W') from by subst e; exact seek_bare _ rb id h)
  clear h
  go_enter Try.func22, Try.ntmps22
  go_wp2_with (go_at_call 32; refine (HM.out _ rfl).mono ?_; rintro e w' ⟨rfl, rfl⟩)
  go_ret
  exact ⟨rfl, rfl⟩
theorem wake_nil (W : World) (id : Int) : Calls Try.prog 23 #[.pointer none, .int .i64 id] W (Ret (.int .i64 2) W) := by
  have HM := Lib.hid (fun W' (e : W' = W) => show Calls Try.prog 32 _ W' (Ret _ W') from by subst e; exact seek_nil _ id)
  go_enter Try.func23, Try.ntmps23
  go_wp2_with (go_at_call 32; refine (HM.out _ rfl).mono ?_; rintro e w' ⟨rfl, rfl⟩)
  go_ret
  exact ⟨rfl, rfl⟩
theorem wake_bare (W : World) (rb : Nat) (h : Bare W rb) (id : Int) : Calls Try.prog 23 #[.pointer (some ⟨rb, 0, none⟩), .int .i64 id] W (Ret (.int .i64 2) W) := by
  have HM := Lib.hid (fun W' (e : W' = W) => show Calls Try.prog 32 _ W' (Ret _ W') from by subst e; exact seek_bare _ rb id h)
  clear h
  go_enter Try.func23, Try.ntmps23
  go_wp2_with (go_at_call 32; refine (HM.out _ rfl).mono ?_; rintro e w' ⟨rfl, rfl⟩)
  go_ret
  exact ⟨rfl, rfl⟩
theorem weigh_nil (W : World) (id w : Int) : Calls Try.prog 24 #[.pointer none, .int .i64 id, .int .i64 w] W (Ret (.int .i64 2) W) := by
  have HM := Lib.hid (fun W' (e : W' = W) => show Calls Try.prog 32 _ W' (Ret _ W') from by subst e; exact seek_nil _ id)
  go_enter Try.func24, Try.ntmps24
  go_wp2_with (go_at_call 32; refine (HM.out _ rfl).mono ?_; rintro e w' ⟨rfl, rfl⟩)
  go_ret
  exact ⟨rfl, rfl⟩
theorem weigh_bare (W : World) (rb : Nat) (h : Bare W rb) (id w : Int) : Calls Try.prog 24 #[.pointer (some ⟨rb, 0, none⟩), .int .i64 id, .int .i64 w] W (Ret (.int .i64 2) W) := by
  have HM := Lib.hid (fun W' (e : W' = W) => show Calls Try.prog 32 _ W' (Ret _ W') from by subst e; exact seek_bare _ rb id h)
  clear h
  go_enter Try.func24, Try.ntmps24
  go_wp2_with (go_at_call 32; refine (HM.out _ rfl).mono ?_; rintro e w' ⟨rfl, rfl⟩)
  go_ret
  exact ⟨rfl, rfl⟩
theorem members_nil (W : World) : Calls Try.prog 16 #[.pointer none] W (Ret (.slice none 0 0) W) := by
  have HM := Lib.hid (fun W' (e : W' = W) => show Calls Try.prog 31 _ W' (Ret _ W') from by subst e; exact isMade_nil _)
  go_enter Try.func16, Try.ntmps16
  go_wp2_with (go_at_call 31; refine (HM.out _ rfl).mono ?_; rintro e w' ⟨rfl, rfl⟩)
  go_ret
  exact ⟨rfl, rfl⟩
theorem members_bare (W : World) (rb : Nat) (h : Bare W rb) : Calls Try.prog 16 #[.pointer (some ⟨rb, 0, none⟩)] W (Ret (.slice none 0 0) W) := by
  have HM := Lib.hid (fun W' (e : W' = W) => show Calls Try.prog 31 _ W' (Ret _ W') from by subst e; exact isMade_bare _ rb h)
  clear h
  go_enter Try.func16, Try.ntmps16
  go_wp2_with (go_at_call 31; refine (HM.out _ rfl).mono ?_; rintro e w' ⟨rfl, rfl⟩)
  go_ret
  exact ⟨rfl, rfl⟩
theorem fork_nil (W : World) : Calls Try.prog 25 #[.pointer none] W (Ret (.pointer none) W) := by
  have HM := Lib.hid (fun W' (e : W' = W) => show Calls Try.prog 31 _ W' (Ret _ W') from by subst e; exact isMade_nil _)
  go_enter Try.func25, Try.ntmps25
  go_wp2_with (go_at_call 31; refine (HM.out _ rfl).mono ?_; rintro e w' ⟨rfl, rfl⟩)
  go_ret
  exact ⟨rfl, rfl⟩
theorem fork_bare (W : World) (rb : Nat) (h : Bare W rb) : Calls Try.prog 25 #[.pointer (some ⟨rb, 0, none⟩)] W (Ret (.pointer none) W) := by
  have HM := Lib.hid (fun W' (e : W' = W) => show Calls Try.prog 31 _ W' (Ret _ W') from by subst e; exact isMade_bare _ rb h)
  clear h
  go_enter Try.func25, Try.ntmps25
  go_wp2_with (go_at_call 31; refine (HM.out _ rfl).mono ?_; rintro e w' ⟨rfl, rfl⟩)
  go_ret
  exact ⟨rfl, rfl⟩

set_option maxRecDepth 100000 in
set_option maxHeartbeats 4000000 in
theorem nobody_law (id w : Int) (W : World) : Calls Try.prog 8 #[.int .i64 id, .int .i64 w] W (RetB (.bool true) W) := by
  have HAW := Lib.hid awake_any
  obtain ⟨rb, hrb⟩ : ∃ rb, W.heap.size = rb := ⟨_, rfl⟩
  have HSZ := Lib.hid hrb
  obtain ⟨w1, hw1⟩ : ∃ w1, W.alloc (.cells #[.int .u64 0, .slice none 0 0, .int .u64 0, .int .u64 0] 60) = w1 := ⟨_, rfl⟩
  have hb1 : Below W.heap.size W w1 := by rw [← hw1]; exact (Below.refl _ W).alloc (Nat.le_refl _) _
  have hB1 : Bare w1 rb := by rw [← hw1]; exact alloc_block W _ hrb
  obtain ⟨lb, hlb⟩ : ∃ lb, w1.heap.size = lb := ⟨_, rfl⟩
  obtain ⟨w2, hw2⟩ : ∃ w2, w1.alloc (.cells #[.pointer none, .pointer (some ⟨rb, 0, none⟩)] 23) = w2 := ⟨_, rfl⟩
  have hb2 : Below w1.heap.size w1 w2 := by rw [← hw2]; exact (Below.refl _ w1).alloc (Nat.le_refl _) _
  have HBARE : Hid (Bare w2 rb) := hB1.below hb2
  have HB2 : Hid (Below W.heap.size W w2) := hb1.trans (hb2.mono hb1.size)
  obtain ⟨l0, l1, _⟩ := two_heads (show w2.heap[lb]? = some (.cells #[.pointer none, .pointer (some ⟨rb, 0, none⟩)] 23 (0, 0)) by rw [← hw2]; exact alloc_block w1 _ hlb)
  clear hb1 hB1 hb2
  go_enter Try.func8, Try.ntmps8
  go_wp2_with fail
  clear hw1 hw2 hrb hlb
  go_loopg [7] 2 (fun gg s7 wr => ∃ k : Nat, k ≤ 2 ∧ gg = 2 - k ∧ s7 = .int .i64 k ∧ wr = w2)
  case atStart => exact ⟨0, by omega, by omega, rfl, rfl⟩
  case round =>
    obtain ⟨k, hk, hg, rfl, rfl⟩ := hrel
    have HG := Lib.hid hg
    clear hg
    by_cases hlt : k < 2
    · rcases (by omega : k = 0 ∨ k = 1) with h0 | h0
      · subst h0
        go_wp2_with (first
          | (go_at_call 19; refine (next_nil _).mono ?_; rintro e w' ⟨rfl, rfl⟩)
          | (go_at_call 15; refine (pick_nil _).mono ?_; rintro e w' ⟨rfl, rfl⟩)
          | (go_at_call 17; refine (lead_nil _ id).mono ?_; rintro e w' ⟨rfl, rfl⟩)
          | (go_at_call 20; refine (join_nil _ id w).mono ?_; rintro e w' ⟨rfl, rfl⟩)
          | (go_at_call 21; refine (leave_nil _ id).mono ?_; rintro e w' ⟨rfl, rfl⟩)
          | (go_at_call 22; refine (block_nil _ id).mono ?_; rintro e w' ⟨rfl, rfl⟩)
          | (go_at_call 23; refine (wake_nil _ id).mono ?_; rintro e w' ⟨rfl, rfl⟩)
          | (go_at_call 24; refine (weigh_nil _ id w).mono ?_; rintro e w' ⟨rfl, rfl⟩)
          | (go_at_call 16; refine (members_nil _).mono ?_; rintro e w' ⟨rfl, rfl⟩)
          | (go_at_call 25; refine (fork_nil _).mono ?_; rintro e w' ⟨rfl, rfl⟩))
        go_roundg 1
        case measure => have := HG.out; omega
        case rel => exact ⟨1, by omega, by omega, rfl, rfl⟩
      · subst h0
        go_wp2_with (first
          | (go_at_call 19; refine (next_bare _ rb HBARE.out).mono ?_; rintro e w' ⟨rfl, rfl⟩)
          | (go_at_call 15; refine (pick_bare _ rb HBARE.out).mono ?_; rintro e w' ⟨rfl, rfl⟩)
          | (go_at_call 17; refine (lead_bare _ rb HBARE.out id).mono ?_; rintro e w' ⟨rfl, rfl⟩)
          | (go_at_call 20; refine (join_bare _ rb HBARE.out id w).mono ?_; rintro e w' ⟨rfl, rfl⟩)
          | (go_at_call 21; refine (leave_bare _ rb HBARE.out id).mono ?_; rintro e w' ⟨rfl, rfl⟩)
          | (go_at_call 22; refine (block_bare _ rb HBARE.out id).mono ?_; rintro e w' ⟨rfl, rfl⟩)
          | (go_at_call 23; refine (wake_bare _ rb HBARE.out id).mono ?_; rintro e w' ⟨rfl, rfl⟩)
          | (go_at_call 24; refine (weigh_bare _ rb HBARE.out id w).mono ?_; rintro e w' ⟨rfl, rfl⟩)
          | (go_at_call 16; refine (members_bare _ rb HBARE.out).mono ?_; rintro e w' ⟨rfl, rfl⟩)
          | (go_at_call 25; refine (fork_bare _ rb HBARE.out).mono ?_; rintro e w' ⟨rfl, rfl⟩))
        go_roundg 0
        case measure => have := HG.out; omega
        case rel => exact ⟨2, by omega, by omega, rfl, rfl⟩
    · have hltz : ¬ (k : Int) < 2 := by omega
      go_wp2_with fail
      refine (HAW.out _).mono ?_
      rintro e w3 ⟨rfl, hb⟩
      have HB3 := Lib.hid (HB2.out.trans (hb.mono HB2.out.size))
      clear hb
      go_wp2
      go_ret
      exact ⟨rfl, HB3.out⟩
end Go.Proofs.Ytanchjcifhbllaa
