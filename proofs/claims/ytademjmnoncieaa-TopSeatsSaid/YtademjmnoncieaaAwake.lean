/-
  A heap of the call's own, kept through its calls; the page's example.
  Conditions: none.
-/
import Derived.Test.YtademjmnoncieaaAgree
set_option linter.unusedVariables false
namespace Go.Proofs.Ytademjmnoncieaa
open Go.RowKit

/-- A heap of the call's own: its blocks from B on. -/
structure Held (B : Nat) (W0 w : World) (hb kb : Nat) (lv : Value) (s : Hs) : Prop where
  lies : HeapAt w hb kb lv s
  ok : Okay s
  h1 : B ≤ hb
  h2 : B ≤ kb
  h3 : ∀ k, lv.ownBlock = some k → B ≤ k
  bel : Below B W0 w
  hB : B ≤ w.heap.size
theorem Held.foot {B : Nat} {W0 w : World} {hb kb : Nat} {lv : Value} {s : Hs} (h : Held B W0 w hb kb lv s) {k : Nat} (hk : Foot hb kb lv k) : B ≤ k := by
  rcases hk with rfl | rfl | hk
  · exact h.h1
  · exact h.h2
  · exact h.h3 k hk
theorem Held.mut {B : Nat} {W0 w w' : World} {hb kb : Nat} {lv : Value} {s : Hs} {v : Value} {C : Hs → Prop} {e : Ending} (h : Held B W0 w hb kb lv s) (m : MutPost w hb kb lv v C e w') :
    ∃ lv' s', e = .returned v ∧ Held B W0 w' hb kb lv' s' ∧ C s' ∧ Apart (Foot hb kb lv) w w' ∧ Grew w lv lv' := by
  obtain ⟨lv', s', h1, h2, h3, h4, h5, h6⟩ := m
  refine ⟨lv', s', h1, ⟨h2, h3, h.h1, h.h2, fun k hk => ?_, h.bel.trans (h5.below h.hB (fun k hk hf => by have := h.foot hf; omega)), Nat.le_trans h.hB h5.size⟩, h4, h5, h6⟩
  rcases h6 k hk with g | g
  · exact h.h3 k g
  · exact Nat.le_trans h.hB g
theorem Held.below {B : Nat} {W0 w w' : World} {hb kb : Nat} {lv : Value} {s : Hs} (h : Held B W0 w hb kb lv s) (hb' : Below w.heap.size w w') : Held B W0 w' hb kb lv s :=
  ⟨h.lies.below hb', h.ok, h.h1, h.h2, h.h3, h.bel.trans (hb'.mono h.hB), Nat.le_trans h.hB hb'.size⟩
theorem Held.new {W0 w w' : World} {B n : Nat} {e : Ending} (hbel : Below B W0 w) (hB : B ≤ w.heap.size) (h : RetNew n w e w') : Held B W0 w' (w.heap.size + 1) w.heap.size (.slice none 0 0) (emptyS n) :=
  ⟨h.2.1, emptyS_okay n, by omega, hB, fun k hk => by simp [Value.ownBlock] at hk, hbel.trans (h.2.2.mono hB), Nat.le_trans hB h.2.2.size⟩

set_option maxRecDepth 100000 in
set_option maxHeartbeats 16000000 in
theorem awake_any (W : World) : Calls Try.prog 8 #[] W (RetB6 (.bool true) W) := by
  have HNEW := Lib.hid (new_ok W 4 (by decide) (by decide))
  go_enter Try.func8, Try.ntmps8
  go_wp2_with fail
  refine HNEW.out.mono ?_
  rintro e w1 hnew
  have K1 := Lib.hid (Held.new (W0 := W) (Below.refl W.heap.size W) (Nat.le_refl _) hnew)
  obtain ⟨rfl, _, _⟩ := hnew
  have A1 := Lib.hid (agree_empty 4)
  obtain ⟨hb, hhb⟩ : ∃ hb, W.heap.size + 1 = hb := ⟨_, rfl⟩
  obtain ⟨kb, hkb⟩ : ∃ kb, W.heap.size = kb := ⟨_, rfl⟩
  rw [hhb] at K1 ⊢
  have K1 := Lib.hid (show Held kb W w1 hb kb (.slice none 0 0) (emptyS 4) by have := K1.out; rwa [hkb] at this)
  have HKB := Lib.hid hkb
  have hm0 : (emptyS 4).m = 0 := rfl
  have hn0 : (emptyS 4).n = 4 := rfl
  generalize emptyS 4 = s1 at *
  generalize Value.slice none 0 0 = lv1 at K1
  clear hhb hkb HNEW
  have P1 := Lib.hid (put_ok w1 hb kb lv1 s1 3 1 2 K1.out.lies K1.out.ok (by omega) (by decide) (by decide) (by decide) (by omega))
  go_wp2_with fail
  refine P1.out.mono ?_
  rintro e w2 hm
  obtain ⟨lv2, s2, rfl, hh, hc, _, _⟩ := K1.out.mut hm
  have K2 := Lib.hid hh
  have A2 := Lib.hid (A1.out.put hc (by omega) (by decide))
  have hn2 : s2.n = 4 := hc.1.trans hn0
  have hm2 : s2.m ≤ 1 := by have := hc.2.1; split at this <;> omega
  clear hm hh hc P1 K1 A1
  have P2 := Lib.hid (put_ok w2 hb kb lv2 s2 1 2 4 K2.out.lies K2.out.ok (by omega) (by decide) (by decide) (by decide) (by omega))
  go_wp2_with fail
  refine P2.out.mono ?_
  rintro e w3 hm
  obtain ⟨lv3, s3, rfl, hh, hc, _, _⟩ := K2.out.mut hm
  have K3 := Lib.hid hh
  have A3 := Lib.hid (A2.out.put hc (by omega) (by decide))
  have hn3 : s3.n = 4 := hc.1.trans hn2
  have hm3 : s3.m ≤ 2 := by have := hc.2.1; split at this <;> omega
  clear hm hh hc P2 K2 A2
  have P3 := Lib.hid (put_ok w3 hb kb lv3 s3 2 3 4 K3.out.lies K3.out.ok (by omega) (by decide) (by decide) (by decide) (by omega))
  go_wp2_with fail
  refine P3.out.mono ?_
  rintro e w4 hm
  obtain ⟨lv4, s4, rfl, hh, hc, _, _⟩ := K3.out.mut hm
  have K4 := Lib.hid hh
  have A4 := Lib.hid (show Agree s4 [(3, 1, 2), (1, 2, 4), (2, 3, 4)] from A3.out.put hc (by omega) (by decide))
  clear hm hh hc P3 K3 A3 hn0 hm0 hn2 hm2 hn3 hm3
  have Q1 := pop_any w4 hb kb lv4 s4 K4.out.lies K4.out.ok
  rw [(A4.out.min K4.out.ok).1] at Q1
  have Q1 := Lib.hid (show Calls Try.prog _ _ _ (MutPost w4 hb kb lv4 (.tuple #[.int .i64 1, .bool true]) (PopC s4)) from Q1)
  go_wp2_with fail
  refine Q1.out.mono ?_
  rintro e w5 hm
  obtain ⟨lv5, s5, rfl, hh, hc, _, _⟩ := K4.out.mut hm
  have K5 := Lib.hid hh
  have A5 := Lib.hid (show Agree s5 [(3, 1, 2), (2, 3, 4)] from A4.out.pop K4.out.ok hc)
  clear hm hh hc Q1 K4 A4
  have Q2 := pop_any w5 hb kb lv5 s5 K5.out.lies K5.out.ok
  rw [(A5.out.min K5.out.ok).1] at Q2
  have Q2 := Lib.hid (show Calls Try.prog _ _ _ (MutPost w5 hb kb lv5 (.tuple #[.int .i64 3, .bool true]) (PopC s5)) from Q2)
  go_wp2_with fail
  refine Q2.out.mono ?_
  rintro e w6 hm
  obtain ⟨lv6, s6, rfl, hh, hc, _, _⟩ := K5.out.mut hm
  have K6 := Lib.hid hh
  have A6 := Lib.hid (show Agree s6 [(2, 3, 4)] from A5.out.pop K5.out.ok hc)
  clear hm hh hc Q2 K5 A5
  have Q3 := pop_any w6 hb kb lv6 s6 K6.out.lies K6.out.ok
  rw [(A6.out.min K6.out.ok).1] at Q3
  have Q3 := Lib.hid (show Calls Try.prog _ _ _ (MutPost w6 hb kb lv6 (.tuple #[.int .i64 2, .bool true]) (PopC s6)) from Q3)
  go_wp2_with fail
  refine Q3.out.mono ?_
  rintro e w7 hm
  obtain ⟨lv7, s7, rfl, hh, hc, _, _⟩ := K6.out.mut hm
  have K7 := Lib.hid hh
  have A7 := Lib.hid (show Agree s7 [] from A6.out.pop K6.out.ok hc)
  clear hm hh hc Q3 K6 A6
  have QL := len_any w7 hb kb lv7 s7 K7.out.lies
  rw [← A7.out.len] at QL
  have QL := Lib.hid QL
  go_wp2_with fail
  refine QL.out.mono ?_
  rintro e w8 ⟨rfl, rfl⟩
  go_wp2_with fail
  go_ret
  exact ⟨rfl, by rw [HKB.out]; exact K7.out.bel⟩
end Go.Proofs.Ytademjmnoncieaa
