/-
  The page's example.
  Conditions: none.
-/
import Derived.Test.YtanchjcifhbllaaHeld
set_option linter.unusedVariables false
namespace Go.Proofs.Ytanchjcifhbllaa
open Go.RowKit Go.Sort

def s1E : Rg := (joinA (newR 2048) 1 2).2
def stE : Nat → Rg
  | 0 => (joinA s1E 2 1).2
  | k + 1 => (pickA (stE k)).2
def wantE (k : Nat) : Int := if k = 1 ∨ k = 4 then 2 else 1
theorem stE_pick (k : Nat) (h : k < 6) : pickV (stE k) = .tuple #[.int .i64 (wantE k), .bool true] := by
  match k, h with
  | 0, _ => rfl
  | 1, _ => rfl
  | 2, _ => rfl
  | 3, _ => rfl
  | 4, _ => rfl
  | 5, _ => rfl
theorem okE1 : Okay s1E := Okay.call (okay_new (L := 2048) (by decide) (by decide)) 0 1 2
theorem okE : ∀ k, Okay (stE k)
  | 0 => okE1.call 0 2 1
  | k + 1 => (okE k).pick
theorem new_lit (W : World) : Calls Try.prog 9 #[.int .i64 2048] W (NewPost W 2048) := new_ok 2048 (by decide) (by decide) W
theorem held_new {W w' : World} {L : Nat} {e : Ending} (h : NewPost W L e w') (h1 : 2048 ≤ L) (h2 : L ≤ 1099511627776) : e = .returned (.tuple #[.pointer (some ⟨W.heap.size, 0, none⟩), .int .i64 0]) ∧ Held W.heap.size W w' W.heap.size (.slice none 0 0) (newR L) :=
  ⟨h.1, h.2.1, okay_new h1 h2, Nat.le_refl _, fun k hk => by (cases hk), h.2.2, Nat.le_refl _⟩
theorem aside_new (W : World) (rb : Nat) (mv : Value) (o : Obj) {s : Rg} (h : RingAt W rb mv s) : Aside (fun k => k = W.heap.size) (W.alloc o) rb mv := fun k hk => by
  subst hk
  refine ⟨by simp, fun hf => ?_⟩
  have := h.foot hf
  omega
def listE : Array Value := #[.int .i64 1, .int .i64 2, .int .i64 1, .int .i64 1, .int .i64 2, .int .i64 1]
theorem listE_at (k : Nat) (h : k < 6) : listE[k]? = some (.int .i64 (wantE k)) := by
  match k, h with
  | 0, _ => rfl
  | 1, _ => rfl
  | 2, _ => rfl
  | 3, _ => rfl
  | 4, _ => rfl
  | 5, _ => rfl

set_option maxRecDepth 100000 in
set_option maxHeartbeats 2000000 in
theorem awake_any (W : World) : Calls Try.prog 10 #[] W (RetB (.bool true) W) := by
  have HJ1 := Lib.hid (fun (w : World) (rb : Nat) (mv : Value) (h : RingAt w rb mv (newR 2048)) => show Calls Try.prog 20 #[.pointer (some ⟨rb, 0, none⟩), .int .i64 1, .int .i64 2] w (MutPost w rb mv (.int .i64 0) s1E) from join_any w rb mv (newR 2048) 1 2 h (okay_new (L := 2048) (by decide) (by decide)))
  have HJ2 := Lib.hid (fun (w : World) (rb : Nat) (mv : Value) (h : RingAt w rb mv s1E) => show Calls Try.prog 20 #[.pointer (some ⟨rb, 0, none⟩), .int .i64 2, .int .i64 1] w (MutPost w rb mv (.int .i64 0) (stE 0)) from join_any w rb mv s1E 2 1 h okE1)
  have HJ3 := Lib.hid (fun (w : World) (rb : Nat) (mv : Value) (h : RingAt w rb mv (stE 6)) => show Calls Try.prog 20 #[.pointer (some ⟨rb, 0, none⟩), .int .i64 1, .int .i64 5] w (MutPost w rb mv (.int .i64 11) (joinA (stE 6) 1 5).2) from join_any w rb mv (stE 6) 1 5 h (okE 6))
  have HJ4 := Lib.hid (fun (w : World) (rb : Nat) (mv : Value) (h : RingAt w rb mv (joinA (stE 6) 1 5).2) => show Calls Try.prog 22 #[.pointer (some ⟨rb, 0, none⟩), .int .i64 3] w (MutPost w rb mv (.int .i64 10) (blockA (joinA (stE 6) 1 5).2 3).2) from block_any w rb mv _ 3 h ((okE 6).call 0 1 5))
  have HJ5 := Lib.hid (fun (w : World) (rb : Nat) (mv : Value) (h : RingAt w rb mv (blockA (joinA (stE 6) 1 5).2 3).2) => show Calls Try.prog 23 #[.pointer (some ⟨rb, 0, none⟩), .int .i64 1] w (MutPost w rb mv (.int .i64 15) (wakeA (blockA (joinA (stE 6) 1 5).2 3).2 1).2) from wake_any w rb mv _ 1 h (((okE 6).call 0 1 5).call 2 3 0))
  have HO3 : Hid (Okay (joinA (stE 6) 1 5).2) := (okE 6).call 0 1 5
  have HO4 : Hid (Okay (blockA (joinA (stE 6) 1 5).2 3).2) := ((okE 6).call 0 1 5).call 2 3 0
  have HO5 : Hid (Okay (wakeA (blockA (joinA (stE 6) 1 5).2 3).2 1).2) := (((okE 6).call 0 1 5).call 2 3 0).call 3 1 0
  generalize (wakeA (blockA (joinA (stE 6) 1 5).2 3).2 1).2 = s5 at HJ5 HO5
  generalize (blockA (joinA (stE 6) 1 5).2 3).2 = s4 at HJ4 HJ5 HO4
  generalize (joinA (stE 6) 1 5).2 = s3 at HJ3 HJ4 HO3
  have HNL := Lib.hid new_lit
  go_enter Try.func10, Try.ntmps10
  go_wp2_with fail
  refine (HNL.out _).mono ?_
  intro e w1 hn
  obtain ⟨rfl, hh⟩ := held_new hn (by decide) (by decide)
  have H1 := Lib.hid hh
  clear hn hh
  obtain ⟨rb, hrb⟩ : ∃ rb, W.heap.size = rb := ⟨_, rfl⟩
  rw [hrb] at H1 ⊢
  have HRB := Lib.hid hrb
  clear hrb
  go_wp2_with fail
  refine (HJ1.out _ _ _ H1.out.lies).mono ?_
  intro e w2 hm
  obtain ⟨mv2, rfl, h2, _, _⟩ := H1.out.mut hm okE1
  have H2 := Lib.hid h2
  clear hm h2
  go_wp2_with fail
  refine (HJ2.out _ _ _ H2.out.lies).mono ?_
  intro e w3 hm
  obtain ⟨mv3, rfl, h3, _, _⟩ := H2.out.mut hm (okE 0)
  have H3 := Lib.hid h3
  clear hm h3
  obtain ⟨w4, hw4⟩ : ∃ w4, w3.alloc (.cells #[.int .i64 1, .int .i64 2, .int .i64 1, .int .i64 1, .int .i64 2, .int .i64 1] 3) = w4 := ⟨_, rfl⟩
  obtain ⟨lb, hlb⟩ : ∃ lb, w3.heap.size = lb := ⟨_, rfl⟩
  have HL4 : Hid (w4.heap[lb]? = some (.cells listE 3 (0, 0))) := by rw [← hw4]; exact alloc_block w3 _ hlb
  have H4 : Hid (Held rb W w4 rb mv3 (stE 0)) := by rw [← hw4]; exact H3.out.below ((Below.refl _ w3).alloc (Nat.le_refl _) _)
  have HA4 : Hid (Aside (fun k => k = lb) w4 rb mv3) := by rw [← hw4, ← hlb]; exact aside_new w3 rb mv3 _ H3.out.lies
  go_wp2_with fail
  clear hw4 hlb
  go_loopg [4] 6 (fun gg s4' wr => ∃ (k : Nat) (mv : Value), k ≤ 6 ∧ gg = 6 - k ∧ s4' = .int .i64 k ∧ Held rb W wr rb mv (stE k) ∧ wr.heap[lb]? = some (.cells listE 3 (0, 0)) ∧ Aside (fun k => k = lb) wr rb mv)
  case atStart => exact ⟨0, mv3, by omega, by omega, rfl, H4.out, HL4.out, HA4.out⟩
  case round =>
    obtain ⟨k, mv, hk, hg, rfl, hh, hl, ha⟩ := hrel
    have HH := Lib.hid hh
    have HL := Lib.hid hl
    have HA := Lib.hid ha
    have HG := Lib.hid hg
    clear hh hl ha hg
    by_cases hlt : k < 6
    · have hltz : (k : Int) < 6 := by omega
      have hk0 : (0 : Int) ≤ (k : Int) := by omega
      have HP := Lib.hid (pick_any wr rb mv (stE k) HH.out.lies HH.out.ok)
      rw [stE_pick k hlt] at HP
      obtain ⟨x, hx⟩ : ∃ x, wantE k = x := ⟨_, rfl⟩
      have HX := Lib.hid hx
      rw [hx] at HP
      clear hx
      go_wp2_with fail
      refine HP.out.mono ?_
      intro e w5 hm
      obtain ⟨mv5, rfl, h5, a5, g5⟩ := HH.out.mut hm (okE (k + 1))
      obtain ⟨A5, b5⟩ := HA.out.mut a5 g5
      have H5 := Lib.hid h5
      have HA5 := Lib.hid A5
      have HL5 := Lib.hid ((b5 lb rfl).trans HL.out)
      have c5 : w5.cell? ⟨lb, k, none⟩ = some (.int .i64 x) := by
        rw [cell_of_row w5 lb k _ _ (0, 0) HL5.out, listE_at k hlt, HX.out]
      clear hm h5 a5 g5 A5 b5
      go_wp2_with fail
      go_roundg (6 - (k + 1))
      case measure => have := HG.out; omega
      case rel => exact ⟨k + 1, mv5, by omega, rfl, by go_num, H5.out, HL5.out, HA5.out⟩
    · have hltz : ¬ (k : Int) < 6 := by omega
      have hk6 : k = 6 := by omega
      rw [hk6] at HH
      go_wp2_with fail
      refine (HJ3.out _ _ _ HH.out.lies).mono ?_
      intro e w5 hm
      obtain ⟨mv5, rfl, h5, _, _⟩ := HH.out.mut hm HO3.out
      have H5 := Lib.hid h5
      clear hm h5
      go_wp2_with fail
      refine (HJ4.out _ _ _ H5.out.lies).mono ?_
      intro e w6 hm
      obtain ⟨mv6, rfl, h6, _, _⟩ := H5.out.mut hm HO4.out
      have H6 := Lib.hid h6
      clear hm h6
      go_wp2_with fail
      refine (HJ5.out _ _ _ H6.out.lies).mono ?_
      intro e w7 hm
      obtain ⟨mv7, rfl, h7, _, _⟩ := H6.out.mut hm HO5.out
      have H7 := Lib.hid h7
      clear hm h7
      go_wp2
      go_ret
      exact ⟨rfl, by rw [HRB.out]; exact H7.out.bel⟩
end Go.Proofs.Ytanchjcifhbllaa
