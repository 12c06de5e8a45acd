/-
  The law FaultFinds: it returns true for every steps and code, and writes nothing that was there.
  Conditions: start-up's two variables are as laid; the numbers are ints.
-/
import Derived.Test.YtciebpijdgdcjaaDoorTells
namespace Go.Proofs.YtciebpijdgdcjaaDoor
open Go.RowKit Go.Extern.Stop Go.Stop Go.Extern

set_option maxHeartbeats 1000000 in
/-- New with a code alone: what errors.Is asks for. -/
theorem new_target (c : Int) (w : World) (hc : (c == 0) = false) :
    Calls Tryd.prog 16 #[.int .i64 c, .string ⟨#[]⟩, .int .i64 0] w fun e w' => ∃ b, e = .returned (.iface 54 (.pointer (some ⟨b, 0, none⟩))) ∧ Below w.heap.size w w' ∧ Target w' b c ∧ b < w'.heap.size ∧ w.heap.size ≤ b := by
  have F := Lib.hid (show Below w.heap.size w (w.alloc (.cells #[.int .i64 c, .string ⟨#[]⟩, .int .i64 0, .nilIface] 56)) ∧ Target (w.alloc (.cells #[.int .i64 c, .string ⟨#[]⟩, .int .i64 0, .nilIface] 56)) w.heap.size c from
    ⟨(Below.refl _ _).alloc (Nat.le_refl _) _, World.alloc_heap_new _ _⟩)
  go_enter Tryd.func16, Tryd.ntmps16
  go_wp2
  go_ret
  exact ⟨_, rfl, F.out.1, F.out.2, by simp, Nat.le_refl _⟩

/-- The codes of the reference's row, and that each is found. -/
theorem codes_at {base n cap : Nat} {w3 : World} {la : Option Addr} {js : List Item} {ks : List Key} (hR : RAt base w3 (.slice la n cap) js) (hk : js.map Item.key = ks) (hp : 0 < js.length) :
    ∃ g, la = some ⟨g, 0, none⟩ ∧ ∀ k (_ : k < js.length), ∃ c, hasO c (some ks) = true ∧ ∀ W, Below w3.heap.size w3 W → W.cell? ⟨g, k * 3, none⟩ = some (.int .i64 c) := by
  obtain ⟨g, cap', h1, hg, _, hc⟩ := hR.cells hp
  cases h1
  refine ⟨g, rfl, fun k hk' => ⟨js[k].code, ?_, fun W hb => (hb.cell (p := ⟨g, k * 3, none⟩) hg).trans (hc k hk').1⟩⟩
  refine List.any_eq_true.2 ⟨js[k].key, ?_, by simp [Item.key]⟩
  rw [← hk]
  exact List.mem_map_of_mem (List.getElem_mem hk')

theorem Keeps.start {w w1 : World} {o : Option (List Key)} {E : Value} {s : Bool} {la : Option Addr} {n c : Nat} {is js : List Item} (hg1 : Good (w.heap.size + 2) w1 o E s (.slice la n c) is js 40) (hb1 : Below w.heap.size w w1) (he : Env w) :
    Keeps w o E s (.slice la n c) is js w1.heap.size w (w1.alloc (.cells #[E, .bool s, .slice la n c] 29)).drew := by
  have hb2 : Below w1.heap.size w1 (w1.alloc (.cells #[E, .bool s, .slice la n c] 29)).drew := ((Below.refl _ _).alloc (Nat.le_refl _) _).drew
  have hh : (w1.alloc (.cells #[E, .bool s, .slice la n c] 29)).drew.heap[w1.heap.size]? = some (.cells #[E, .bool s, .slice la n c] 29 (0, 0)) := World.alloc_heap_new _ _
  have := BothAt.cells hh
  exact ⟨hg1.later hb2, ⟨this.1, this.2.1, this.2.2.1⟩, he.later (hb1.trans (hb2.mono hb1.size)), by show _ < (w1.alloc _).heap.size; simp, hb1.trans (hb2.mono hb1.size)⟩

/-- errors.Is for a code alone. -/
theorem finds_is {base : Nat} {w5 w7 : World} {o : Option (List Key)} {E : Value} {s : Bool} {lv : Value} {is js : List Item} {b : Nat} {code : Int} (h7 : Good base w7 o E s lv is js 40) (h5 : Good base w5 o E s lv is js 40) (hb : Below w5.heap.size w5 w7) (ht : Target w7 b code) (hbt : b < w7.heap.size) (hbb : w5.heap.size ≤ b) (hE : E ≠ .nilIface) :
    Calls Tryd.prog 17 #[E, .iface 54 (.pointer (some ⟨b, 0, none⟩))] w7 (Ans (hasO code o) w7) := by
  have h := is_any E is b code w7 ((h5.chain.kept (Nat.le_refl _) hb).up hbb) ht hbt
  have e0 : hasO code o = hasCode code is := by
    have hr := h7.eres
    rw [hasCode_any]
    cases o with
    | none => exact absurd hr.1 hE
    | some ks => rw [hr.2]; rfl
  rw [e0]
  exact h

set_option maxRecDepth 100000 in
set_option maxHeartbeats 8000000 in
theorem finds_any (sv : Value) (code : Int) (acts : List ActV) (w : World) (he : Env w) (hs : ActsAt w sv acts) (hi : ∀ a ∈ acts, I64 a.code ∧ I64 a.pos) :
    Calls Tryd.prog 4 #[sv, .int .i64 code] w (Ans true w) := by
  have HH := Lib.hid (behind_any sv acts w he hs hi)
  have HE := Lib.hid he
  clear he hs hi
  go_enter Tryd.func4, Tryd.ntmps4
  go_wp2_with fail
  refine HH.out.mono ?_
  rintro e w1 ⟨o, E, s, lv, is, js, rfl, hb1, hg1⟩
  obtain ⟨n, hn⟩ : ∃ n, n = lenO o := ⟨_, rfl⟩
  have HN := Lib.hid hn
  clear hn
  obtain ⟨la, lcap, rfl⟩ : ∃ la lcap, lv = .slice la n lcap := by
    by_cases h0 : js = []
    · refine ⟨none, 0, ?_⟩
      have := hg1.r_len
      rw [hg1.nils h0, HN.out, ← this, h0]
      rfl
    · obtain ⟨g, cap, h1, _⟩ := hg1.row.cells (List.length_pos_iff.2 h0)
      exact ⟨some ⟨g, 0, none⟩, cap, by rw [h1, HN.out, ← hg1.r_len]⟩
  have HX3 := Lib.hid (Keeps.start hg1 hb1 HE.out)
  have HS3 := Lib.hid (HX3.out.2.1)
  have hsh := hg1.shape
  clear hb1 hg1
  rcases hsh with ⟨rfl, rfl, rfl⟩ | ⟨T, x, ks, rfl, rfl, rfl⟩
  · obtain rfl : n = 0 := HN.out
    have hE := fun W => run_neq_nil_nil (P := Tryd.prog) W 24 (by kernel_rfl)
    go_wp2_with fail
    refine wp_region_N (S1 := fun W => BCells W w1.heap.size (.nilIface) false (.slice la 0 lcap)) (S2 := fun _ => True) (N := fun _ => false) (by kernel_rfl) ?_
    change wpAnyN _ _ _ _ _ _ _ 9 (Array.replicate 9 false) _ _
    refine wpAnyN_take false (i := 0) (v := .pointer (some ⟨w1.heap.size, 0, none⟩)) rfl (by kernel_rfl) (by kernel_rfl) (by kernel_rfl) (fun _ _ _ h => h) (.inl ⟨by kernel_rfl, fun W hS => ?_⟩) ⟨HS3.out, fun h => by cases h⟩ ?_
    · simp [execOp, Act.eval, go_sem]
    refine wpAnyN_take false (i := 1) (v := .nilIface) rfl (by kernel_rfl) (by kernel_rfl) (by kernel_rfl) (fun _ _ _ h => h) (.inl ⟨by kernel_rfl, fun W hS => ?_⟩) ⟨HS3.out, fun h => by cases h⟩ ?_
    · simp [execOp, Act.eval, Act.put, go_sem, hS.1.1]
    refine wpAnyN_take false (i := 2) (v := .int .i64 code) rfl (by kernel_rfl) (by kernel_rfl) (by kernel_rfl) (fun _ _ _ h => h) (.inl ⟨by kernel_rfl, fun W hS => ?_⟩) ⟨HS3.out, fun h => by cases h⟩ ?_
    · simp [execOp, Act.eval, Act.put, go_sem]
    refine wpAnyN_take false (i := 4) (v := .pointer (some ⟨w1.heap.size, 1, none⟩)) rfl (by kernel_rfl) (by kernel_rfl) (by kernel_rfl) (fun _ _ _ h => h) (.inl ⟨by kernel_rfl, fun W hS => ?_⟩) ⟨HS3.out, fun h => by cases h⟩ ?_
    · simp [execOp, Act.eval, Act.put, go_sem]
    refine wpAnyN_take false (i := 5) (v := .agg #[.bool false, .slice la 0 lcap]) rfl (by kernel_rfl) (by kernel_rfl) (by kernel_rfl) (fun _ _ _ h => h) (.inl ⟨by kernel_rfl, fun W hS => ?_⟩) ⟨HS3.out, fun h => by cases h⟩ ?_
    · simp [execOp, Act.eval, Act.put, go_sem, hS.1.2.1, hS.1.2.2]
    refine wpAnyN_take false (i := 6) (v := .int .i64 code) rfl (by kernel_rfl) (by kernel_rfl) (by kernel_rfl) (fun _ _ _ h => h) (.inl ⟨by kernel_rfl, fun W hS => ?_⟩) ⟨HS3.out, fun h => by cases h⟩ ?_
    · simp [execOp, Act.eval, Act.put, go_sem]
    refine wpAnyN_step (i := 3) (by kernel_rfl) rfl (by kernel_rfl) ?_
    intro K' hK
    try simp only [Act.put]
    go_simp
    refine (e_has HX3.out.1 HX3.out.2.2.1 code).mono ?_
    rintro e w4 ⟨rfl, hb⟩
    have HX4 := Lib.hid (hx_next HX3.out hb)
    clear hb
    have HS4 := Lib.hid (HX4.out.2.1)
    refine hK.out _ _ HS4.out (fun h => absurd h (by decide)) ?_
    refine wpAnyN_step (i := 7) (by kernel_rfl) rfl (by kernel_rfl) ?_
    intro K' hK
    try simp only [Act.put]
    go_simp
    refine (r_has HX4.out.1 code).mono ?_
    rintro e w5 ⟨rfl, hb⟩
    have HX5 := Lib.hid (hx_next HX4.out hb)
    clear hb
    have HS5 := Lib.hid (HX5.out.2.1)
    refine hK.out _ _ HS5.out (fun h => absurd h (by decide)) ?_
    refine wpAnyN_take false (i := 8) (v := .bool false) rfl (by kernel_rfl) (by kernel_rfl) (by kernel_rfl) (fun _ _ _ h => h) (.inl ⟨by kernel_rfl, fun W hS => ?_⟩) ⟨HS5.out, fun h => by cases h⟩ ?_
    · simp [execOp, Act.eval, go_sem]
    refine wpAnyN_done (by kernel_rfl) ?_
    simp only [Act.put]
    go_simp
    by_cases hc : code = 0
    · subst hc
      have HNW := Lib.hid (new_zero ⟨#[]⟩ 0 w5)
      go_wp2_with fail
      refine HNW.out.mono ?_
      rintro e w6 ⟨rfl, rfl⟩
      obtain ⟨d0, d1, d2⟩ := HX5.out.2.1
      go_wp2_with fail
      go_quiet (fail)
      have HX6 := Lib.hid (hx_next HX5.out (below_drewN (Below.refl _ _) nq))
      clear d0 d1 d2
      obtain ⟨d0, d1, d2⟩ := HX6.out.2.1
      have HA := Lib.hid (awake_any _ HX6.out.2.2.1)
      go_wp2_with fail
      refine wp_loop_rounds 1 ?_
      rw [rounds_succ]
      go_wp2_with fail
      refine HA.out.mono ?_
      rintro e w20 ⟨rfl, hb20⟩
      go_wp2
      go_ret
      exact ⟨rfl, HX6.out.2.2.2.2.trans (hb20.mono HX6.out.2.2.2.2.size)⟩
    · have hcb : (code == 0) = false := by simpa using hc
      have hnb : (code != 0) = true := by simpa using hc
      have HC0 := Lib.hid hc
      clear hc
      have HNW := Lib.hid (new_target code w5 hcb)
      go_wp2_with fail
      refine HNW.out.mono ?_
      rintro e w6 ⟨b, rfl, hb6, ht6, hbt6, hbb6⟩
      have HX6 := Lib.hid (hx_next HX5.out hb6)
      clear hb6 ht6 hbt6 hbb6
      obtain ⟨d0, d1, d2⟩ := HX6.out.2.1
      go_wp2_with fail
      go_quiet (fail)
      have HX7 := Lib.hid (hx_next HX6.out (below_drewN (Below.refl _ _) nq))
      clear d0 d1 d2
      obtain ⟨d0, d1, d2⟩ := HX7.out.2.1
      have HA := Lib.hid (awake_any _ HX7.out.2.2.1)
      go_wp2_with fail
      refine wp_loop_rounds 1 ?_
      rw [rounds_succ]
      go_wp2_with fail
      refine HA.out.mono ?_
      rintro e w20 ⟨rfl, hb20⟩
      go_wp2
      go_ret
      exact ⟨rfl, HX7.out.2.2.2.2.trans (hb20.mono HX7.out.2.2.2.2.size)⟩
  · have hE := fun W T x => run_neq_held_nil (P := Tryd.prog) W 24 T x (by kernel_rfl)
    have HEL := Lib.hid (show js.length = n from HX3.out.1.r_len.trans HN.out.symm)
    have HK := Lib.hid (show js.map Item.key = ks from HX3.out.1.rres.2)
    go_wp2_with fail
    refine wp_region_N (S1 := fun W => BCells W w1.heap.size (.iface T x) true (.slice la n lcap)) (S2 := fun _ => True) (N := fun _ => false) (by kernel_rfl) ?_
    change wpAnyN _ _ _ _ _ _ _ 9 (Array.replicate 9 false) _ _
    refine wpAnyN_take false (i := 0) (v := .pointer (some ⟨w1.heap.size, 0, none⟩)) rfl (by kernel_rfl) (by kernel_rfl) (by kernel_rfl) (fun _ _ _ h => h) (.inl ⟨by kernel_rfl, fun W hS => ?_⟩) ⟨HS3.out, fun h => by cases h⟩ ?_
    · simp [execOp, Act.eval, go_sem]
    refine wpAnyN_take false (i := 1) (v := .iface T x) rfl (by kernel_rfl) (by kernel_rfl) (by kernel_rfl) (fun _ _ _ h => h) (.inl ⟨by kernel_rfl, fun W hS => ?_⟩) ⟨HS3.out, fun h => by cases h⟩ ?_
    · simp [execOp, Act.eval, Act.put, go_sem, hS.1.1]
    refine wpAnyN_take false (i := 2) (v := .int .i64 code) rfl (by kernel_rfl) (by kernel_rfl) (by kernel_rfl) (fun _ _ _ h => h) (.inl ⟨by kernel_rfl, fun W hS => ?_⟩) ⟨HS3.out, fun h => by cases h⟩ ?_
    · simp [execOp, Act.eval, Act.put, go_sem]
    refine wpAnyN_take false (i := 4) (v := .pointer (some ⟨w1.heap.size, 1, none⟩)) rfl (by kernel_rfl) (by kernel_rfl) (by kernel_rfl) (fun _ _ _ h => h) (.inl ⟨by kernel_rfl, fun W hS => ?_⟩) ⟨HS3.out, fun h => by cases h⟩ ?_
    · simp [execOp, Act.eval, Act.put, go_sem]
    refine wpAnyN_take false (i := 5) (v := .agg #[.bool true, .slice la n lcap]) rfl (by kernel_rfl) (by kernel_rfl) (by kernel_rfl) (fun _ _ _ h => h) (.inl ⟨by kernel_rfl, fun W hS => ?_⟩) ⟨HS3.out, fun h => by cases h⟩ ?_
    · simp [execOp, Act.eval, Act.put, go_sem, hS.1.2.1, hS.1.2.2]
    refine wpAnyN_take false (i := 6) (v := .int .i64 code) rfl (by kernel_rfl) (by kernel_rfl) (by kernel_rfl) (fun _ _ _ h => h) (.inl ⟨by kernel_rfl, fun W hS => ?_⟩) ⟨HS3.out, fun h => by cases h⟩ ?_
    · simp [execOp, Act.eval, Act.put, go_sem]
    refine wpAnyN_step (i := 3) (by kernel_rfl) rfl (by kernel_rfl) ?_
    intro K' hK
    try simp only [Act.put]
    go_simp
    refine (e_has HX3.out.1 HX3.out.2.2.1 code).mono ?_
    rintro e w4 ⟨rfl, hb⟩
    have HX4 := Lib.hid (hx_next HX3.out hb)
    clear hb
    have HS4 := Lib.hid (HX4.out.2.1)
    refine hK.out _ _ HS4.out (fun h => absurd h (by decide)) ?_
    refine wpAnyN_step (i := 7) (by kernel_rfl) rfl (by kernel_rfl) ?_
    intro K' hK
    try simp only [Act.put]
    go_simp
    refine (r_has HX4.out.1 code).mono ?_
    rintro e w5 ⟨rfl, hb⟩
    have HX5 := Lib.hid (hx_next HX4.out hb)
    clear hb
    have HS5 := Lib.hid (HX5.out.2.1)
    refine hK.out _ _ HS5.out (fun h => absurd h (by decide)) ?_
    refine wpAnyN_take false (i := 8) (v := .bool false) rfl (by kernel_rfl) (by kernel_rfl) (by kernel_rfl) (fun _ _ _ h => h) (.inl ⟨by kernel_rfl, fun W hS => ?_⟩) ⟨HS5.out, fun h => by cases h⟩ ?_
    · simp [execOp, Act.eval, go_sem]
    refine wpAnyN_done (by kernel_rfl) ?_
    simp only [Act.put]
    go_simp
    by_cases hc : code = 0
    · subst hc
      have HNW := Lib.hid (new_zero ⟨#[]⟩ 0 w5)
      go_wp2_with fail
      refine HNW.out.mono ?_
      rintro e w6 ⟨rfl, rfl⟩
      obtain ⟨d0, d1, d2⟩ := HX5.out.2.1
      go_wp2_with fail
      go_quiet (fail)
      have HX6 := Lib.hid (hx_next HX5.out (below_drewN (Below.refl _ _) nq))
      clear d0 d1 d2
      have HC := Lib.hid (codes_at HX6.out.1.row HK.out)
      go_wp2_with fail
      go_loopg [7] n (fun g x wr => ∃ k : Nat, k ≤ n ∧ g = n - k ∧ x = .int .i64 k ∧ Below (w5.drewN nq).heap.size (w5.drewN nq) wr)
      case atStart => exact ⟨0, Nat.zero_le _, rfl, rfl, Below.refl _ _⟩
      case round =>
        obtain ⟨k, hk, hgk, rfl, hbr⟩ := hrel
        have HGK := Lib.hid hgk
        have HBR := Lib.hid hbr
        have HXR := Lib.hid (hx_next HX6.out hbr)
        by_cases hlt : k < n
        · obtain ⟨g, hla, hcc⟩ := HC.out (by have := HEL.out; omega)
          subst hla
          obtain ⟨c, hc, hcell⟩ := hcc k (by have := HEL.out; omega)
          have HXD := Lib.hid (hx_next HXR.out ((Below.refl _ _).drew : Below wr.heap.size wr wr.drew))
          have hF := e_has HXD.out.1 HXD.out.2.2.1 c
          rw [hc] at hF
          have HF := Lib.hid hF
          have c0 := hcell wr hbr
          have hk40 : k < 40 := by have := HX3.out.1.small; have := HN.out; omega
          obtain ⟨d0, d1, d2⟩ := HXR.out.2.1
          clear hcc hcell hbr hgk hc hF
          go_wp2_with fail
          go_still_tail 9, (by kernel_rfl)
          go_wp2_with (go_at_call 14; refine HF.out.mono ?_; rintro e w21 ⟨rfl, hb21⟩)
          go_roundg (n - (k + 1))
          case measure => have := HGK.out; omega
          case rel => exact ⟨k + 1, hlt, rfl, by go_num, HBR.out.trans (((Below.refl _ _).drew.trans hb21).mono HBR.out.size)⟩
        · obtain rfl : k = n := by omega
          have HA := Lib.hid (awake_any wr HXR.out.2.2.1)
          obtain ⟨d0, d1, d2⟩ := HXR.out.2.1
          clear hbr hgk
          go_wp2_with fail
          refine HA.out.mono ?_
          rintro e w20 ⟨rfl, hb20⟩
          go_wp2
          go_ret
          exact ⟨rfl, HXR.out.2.2.2.2.trans (hb20.mono HXR.out.2.2.2.2.size)⟩
    · have hcb : (code == 0) = false := by simpa using hc
      have hnb : (code != 0) = true := by simpa using hc
      have HC0 := Lib.hid hc
      clear hc
      have HNW := Lib.hid (new_target code w5 hcb)
      go_wp2_with fail
      refine HNW.out.mono ?_
      rintro e w6 ⟨b, rfl, hb6, ht6, hbt6, hbb6⟩
      have HX6 := Lib.hid (hx_next HX5.out hb6)
      have HX7 := Lib.hid (hx_next HX6.out ((Below.refl _ _).drew : Below w6.heap.size w6 w6.drew))
      have HS6 := Lib.hid (HX7.out.2.1)
      have HI := Lib.hid (show Calls Tryd.prog 17 #[.iface T x, .iface 54 (.pointer (some ⟨b, 0, none⟩))] w6.drew (Ans (hasO code (some ks)) w6.drew) from finds_is HX7.out.1 HX5.out.1 (hb6.trans (Below.drew (Below.refl _ _) |>.mono hb6.size)) ht6 hbt6 hbb6 (by simp))
      clear hb6 ht6 hbt6 hbb6
      go_wp2_with fail
      refine wp_region_N (S1 := fun W => BCells W w1.heap.size (.iface T x) true (.slice la n lcap)) (S2 := fun _ => True) (N := fun _ => false) (by kernel_rfl) ?_
      change wpAnyN _ _ _ _ _ _ _ 22 (Array.replicate 22 false) _ _
      refine wpAnyN_take false (i := 0) (v := .int .i64 code) rfl (by kernel_rfl) (by kernel_rfl) (by kernel_rfl) (fun _ _ _ h => h) (.inl ⟨by kernel_rfl, fun W hS => ?_⟩) ⟨HS6.out, fun h => by cases h⟩ ?_
      · simp [execOp, Act.eval, go_sem]
      refine wpAnyN_take false (i := 1) (v := .bool true) rfl (by kernel_rfl) (by kernel_rfl) (by kernel_rfl) (fun _ _ _ h => h) (.inl ⟨by kernel_rfl, fun W hS => ?_⟩) ⟨HS6.out, fun h => by cases h⟩ ?_
      · simp [execOp, Act.eval, Act.put, go_sem, HC0.out]
      refine wpAnyN_take false (i := 2) (v := .bool true) rfl (by kernel_rfl) (by kernel_rfl) (by kernel_rfl) (fun _ _ _ h => h) (.inl ⟨by kernel_rfl, fun W hS => ?_⟩) ⟨HS6.out, fun h => by cases h⟩ ?_
      · simp [execOp, Act.eval, Act.put, go_sem]
      refine wpAnyN_take false (i := 3) (v := .pointer (some ⟨w1.heap.size, 0, none⟩)) rfl (by kernel_rfl) (by kernel_rfl) (by kernel_rfl) (fun _ _ _ h => h) (.inl ⟨by kernel_rfl, fun W hS => ?_⟩) ⟨HS6.out, fun h => by cases h⟩ ?_
      · simp [execOp, Act.eval, Act.put, go_sem]
      refine wpAnyN_take false (i := 4) (v := .iface T x) rfl (by kernel_rfl) (by kernel_rfl) (by kernel_rfl) (fun _ _ _ h => h) (.inl ⟨by kernel_rfl, fun W hS => ?_⟩) ⟨HS6.out, fun h => by cases h⟩ ?_
      · simp [execOp, Act.eval, Act.put, go_sem, hS.1.1]
      refine wpAnyN_take false (i := 5) (v := .bool true) rfl (by kernel_rfl) (by kernel_rfl) (by kernel_rfl) (fun _ _ _ h => h) (.inl ⟨by kernel_rfl, fun W hS => ?_⟩) ⟨HS6.out, fun h => by cases h⟩ ?_
      · simp [execOp, Act.eval, Act.put, go_sem, hE]
      refine wpAnyN_take false (i := 6) (v := .bool true) rfl (by kernel_rfl) (by kernel_rfl) (by kernel_rfl) (fun _ _ _ h => h) (.inl ⟨by kernel_rfl, fun W hS => ?_⟩) ⟨HS6.out, fun h => by cases h⟩ ?_
      · simp [execOp, Act.eval, Act.put, go_sem]
      refine wpAnyN_take false (i := 7) (v := .bool true) rfl (by kernel_rfl) (by kernel_rfl) (by kernel_rfl) (fun _ _ _ h => h) (.inl ⟨by kernel_rfl, fun W hS => ?_⟩) ⟨HS6.out, fun h => by cases h⟩ ?_
      · simp [execOp, Act.eval, Act.put, go_sem]
      refine wpAnyN_take false (i := 8) (v := .iface 54 (.pointer (some ⟨b, 0, none⟩))) rfl (by kernel_rfl) (by kernel_rfl) (by kernel_rfl) (fun _ _ _ h => h) (.inl ⟨by kernel_rfl, fun W hS => ?_⟩) ⟨HS6.out, fun h => by cases h⟩ ?_
      · simp [execOp, Act.eval, Act.put, go_sem]
      refine wpAnyN_take false (i := 9) (v := .bool true) rfl (by kernel_rfl) (by kernel_rfl) (by kernel_rfl) (fun _ _ _ h => h) (.inl ⟨by kernel_rfl, fun W hS => ?_⟩) ⟨HS6.out, fun h => by cases h⟩ ?_
      · simp [execOp, Act.eval, Act.put, go_sem, hE]
      refine wpAnyN_take false (i := 10) (v := .bool true) rfl (by kernel_rfl) (by kernel_rfl) (by kernel_rfl) (fun _ _ _ h => h) (.inl ⟨by kernel_rfl, fun W hS => ?_⟩) ⟨HS6.out, fun h => by cases h⟩ ?_
      · simp [execOp, Act.eval, Act.put, go_sem]
      refine wpAnyN_take false (i := 11) (v := .bool true) rfl (by kernel_rfl) (by kernel_rfl) (by kernel_rfl) (fun _ _ _ h => h) (.inl ⟨by kernel_rfl, fun W hS => ?_⟩) ⟨HS6.out, fun h => by cases h⟩ ?_
      · simp [execOp, Act.eval, Act.put, go_sem]
      refine wpAnyN_take false (i := 12) (v := .pointer (some ⟨w1.heap.size, 0, none⟩)) rfl (by kernel_rfl) (by kernel_rfl) (by kernel_rfl) (fun _ _ _ h => h) (.inl ⟨by kernel_rfl, fun W hS => ?_⟩) ⟨HS6.out, fun h => by cases h⟩ ?_
      · simp [execOp, Act.eval, Act.put, go_sem]
      refine wpAnyN_take false (i := 13) (v := .iface T x) rfl (by kernel_rfl) (by kernel_rfl) (by kernel_rfl) (fun _ _ _ h => h) (.inl ⟨by kernel_rfl, fun W hS => ?_⟩) ⟨HS6.out, fun h => by cases h⟩ ?_
      · simp [execOp, Act.eval, Act.put, go_sem, hS.1.1]
      refine wpAnyN_take false (i := 14) (v := .iface 54 (.pointer (some ⟨b, 0, none⟩))) rfl (by kernel_rfl) (by kernel_rfl) (by kernel_rfl) (fun _ _ _ h => h) (.inl ⟨by kernel_rfl, fun W hS => ?_⟩) ⟨HS6.out, fun h => by cases h⟩ ?_
      · simp [execOp, Act.eval, Act.put, go_sem]
      refine wpAnyN_take false (i := 16) (v := .pointer (some ⟨w1.heap.size, 1, none⟩)) rfl (by kernel_rfl) (by kernel_rfl) (by kernel_rfl) (fun _ _ _ h => h) (.inl ⟨by kernel_rfl, fun W hS => ?_⟩) ⟨HS6.out, fun h => by cases h⟩ ?_
      · simp [execOp, Act.eval, Act.put, go_sem]
      refine wpAnyN_take false (i := 17) (v := .agg #[.bool true, .slice la n lcap]) rfl (by kernel_rfl) (by kernel_rfl) (by kernel_rfl) (fun _ _ _ h => h) (.inl ⟨by kernel_rfl, fun W hS => ?_⟩) ⟨HS6.out, fun h => by cases h⟩ ?_
      · simp [execOp, Act.eval, Act.put, go_sem, hS.1.2.1, hS.1.2.2]
      refine wpAnyN_take false (i := 18) (v := .int .i64 code) rfl (by kernel_rfl) (by kernel_rfl) (by kernel_rfl) (fun _ _ _ h => h) (.inl ⟨by kernel_rfl, fun W hS => ?_⟩) ⟨HS6.out, fun h => by cases h⟩ ?_
      · simp [execOp, Act.eval, Act.put, go_sem]
      refine wpAnyN_step (i := 15) (by kernel_rfl) rfl (by kernel_rfl) ?_
      intro K' hK
      try simp only [Act.put]
      go_simp
      refine HI.out.mono ?_
      rintro e w7 ⟨rfl, hb⟩
      have HX8 := Lib.hid (hx_next HX7.out hb)
      clear hb
      have HS8 := Lib.hid (HX8.out.2.1)
      refine hK.out _ _ HS8.out (fun h => absurd h (by decide)) ?_
      refine wpAnyN_step (i := 19) (by kernel_rfl) rfl (by kernel_rfl) ?_
      intro K' hK
      try simp only [Act.put]
      go_simp
      refine (r_has HX8.out.1 code).mono ?_
      rintro e w8 ⟨rfl, hb⟩
      have HX9 := Lib.hid (hx_next HX8.out hb)
      clear hb
      have HS9 := Lib.hid (HX9.out.2.1)
      refine hK.out _ _ HS9.out (fun h => absurd h (by decide)) ?_
      refine wpAnyN_take false (i := 20) (v := .bool false) rfl (by kernel_rfl) (by kernel_rfl) (by kernel_rfl) (fun _ _ _ h => h) (.inl ⟨by kernel_rfl, fun W hS => ?_⟩) ⟨HS9.out, fun h => by cases h⟩ ?_
      · simp [execOp, Act.eval, go_sem]
      refine wpAnyN_take false (i := 21) (v := .bool false) rfl (by kernel_rfl) (by kernel_rfl) (by kernel_rfl) (fun _ _ _ h => h) (.inl ⟨by kernel_rfl, fun W hS => ?_⟩) ⟨HS9.out, fun h => by cases h⟩ ?_
      · simp [execOp, Act.eval, Act.put, go_sem]
      refine wpAnyN_done (by kernel_rfl) ?_
      simp only [Act.put]
      go_simp
      have HC := Lib.hid (codes_at HX9.out.1.row HK.out)
      go_wp2_with fail
      go_loopg [7] n (fun g x wr => ∃ k : Nat, k ≤ n ∧ g = n - k ∧ x = .int .i64 k ∧ Below (w8).heap.size (w8) wr)
      case atStart => exact ⟨0, Nat.zero_le _, rfl, rfl, Below.refl _ _⟩
      case round =>
        obtain ⟨k, hk, hgk, rfl, hbr⟩ := hrel
        have HGK := Lib.hid hgk
        have HBR := Lib.hid hbr
        have HXR := Lib.hid (hx_next HX9.out hbr)
        by_cases hlt : k < n
        · obtain ⟨g, hla, hcc⟩ := HC.out (by have := HEL.out; omega)
          subst hla
          obtain ⟨c, hc, hcell⟩ := hcc k (by have := HEL.out; omega)
          have HXD := Lib.hid (hx_next HXR.out ((Below.refl _ _).drew : Below wr.heap.size wr wr.drew))
          have hF := e_has HXD.out.1 HXD.out.2.2.1 c
          rw [hc] at hF
          have HF := Lib.hid hF
          have c0 := hcell wr hbr
          have hk40 : k < 40 := by have := HX3.out.1.small; have := HN.out; omega
          obtain ⟨d0, d1, d2⟩ := HXR.out.2.1
          clear hcc hcell hbr hgk hc hF
          go_wp2_with fail
          go_still_tail 9, (by kernel_rfl)
          go_wp2_with (go_at_call 14; refine HF.out.mono ?_; rintro e w21 ⟨rfl, hb21⟩)
          go_roundg (n - (k + 1))
          case measure => have := HGK.out; omega
          case rel => exact ⟨k + 1, hlt, rfl, by go_num, HBR.out.trans (((Below.refl _ _).drew.trans hb21).mono HBR.out.size)⟩
        · obtain rfl : k = n := by omega
          have HA := Lib.hid (awake_any wr HXR.out.2.2.1)
          obtain ⟨d0, d1, d2⟩ := HXR.out.2.1
          clear hbr hgk
          go_wp2_with fail
          refine HA.out.mono ?_
          rintro e w20 ⟨rfl, hb20⟩
          go_wp2
          go_ret
          exact ⟨rfl, HXR.out.2.2.2.2.trans (hb20.mono HXR.out.2.2.2.2.size)⟩
end Go.Proofs.YtciebpijdgdcjaaDoor
