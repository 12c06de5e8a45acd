/-
  The law FaultTells: it returns true for every steps, and writes nothing that was there.
  Conditions: start-up's two variables are as laid; the numbers are ints.
-/
import Derived.Test.YtciebpijdgdcjaaDoorAnswers
namespace Go.Proofs.YtciebpijdgdcjaaDoor
open Go.RowKit Go.Extern.Stop Go.Stop Go.Extern

/-- What stays over the calls: both, the law's variable, start-up's variables. -/
def Keeps (w : World) (o : Option (List Key)) (E : Value) (s : Bool) (lv : Value) (is js : List Item) (bb : Nat) (W0 W : World) : Prop :=
  Good (w.heap.size + 2) W o E s lv is js 40 ∧ BCells W bb E s lv ∧ Env W ∧ bb < W.heap.size ∧ Below W0.heap.size W0 W

/-- Both rows of links, side by side. -/
theorem rows_at {base n m vcap lcap : Nat} {w3 : World} {va la : Option Addr} {is js : List Item} (hL : LinksAt w3.heap.size w3 (.slice va n vcap) is) (hR : RAt base w3 (.slice la m lcap) js) (hk : is.map Item.key = js.map Item.key) (hp : 0 < is.length) :
    ∃ g g', va = some ⟨g, 0, none⟩ ∧ la = some ⟨g', 0, none⟩ ∧ ∀ k (_ : k < is.length), ∃ c p q, ∀ W, Below w3.heap.size w3 W →
      W.cell? ⟨g, k * 3, none⟩ = some (.int .i64 c) ∧ W.cell? ⟨g, k * 3 + 1, none⟩ = some (.string p) ∧ W.cell? ⟨g, k * 3 + 2, none⟩ = some (.int .i64 q) ∧
      W.cell? ⟨g', k * 3, none⟩ = some (.int .i64 c) ∧ W.cell? ⟨g', k * 3 + 1, none⟩ = some (.string p) ∧ W.cell? ⟨g', k * 3 + 2, none⟩ = some (.int .i64 q) := by
  have hlen : is.length = js.length := by have := congrArg List.length hk; simpa using this
  obtain ⟨g', cap', h1, hg', _, hc'⟩ := hR.cells (by omega)
  rcases hL with ⟨_, h0⟩ | ⟨g, cap, h2, hg, hc⟩
  · rw [h0] at hp; cases hp
  · cases h1
    cases h2
    refine ⟨g, g', rfl, rfl, fun k hk' => ?_⟩
    have e : (is[k]'hk').key = (js[k]'(by omega)).key := by
      have := congrArg (fun l => l[k]?) hk
      simpa [hk', (by omega : k < js.length)] using this
    refine ⟨(is[k]'hk').code, (is[k]'hk').part, (is[k]'hk').pos, fun W hb => ?_⟩
    obtain ⟨a, b, c⟩ := hc k hk'
    obtain ⟨a', b', c'⟩ := hc' k (by omega)
    have ec : (is[k]'hk').code = (js[k]'(by omega)).code := congrArg Prod.fst e
    have ep : (is[k]'hk').part = (js[k]'(by omega)).part := congrArg (fun x => x.2.1) e
    have eq : (is[k]'hk').pos = (js[k]'(by omega)).pos := congrArg (fun x => x.2.2) e
    exact ⟨(hb.cell (p := ⟨g, k * 3, none⟩) hg).trans a, (hb.cell (p := ⟨g, k * 3 + 1, none⟩) hg).trans b, (hb.cell (p := ⟨g, k * 3 + 2, none⟩) hg).trans c,
      (hb.cell (p := ⟨g', k * 3, none⟩) hg').trans (by rw [ec]; exact a'), (hb.cell (p := ⟨g', k * 3 + 1, none⟩) hg').trans (by rw [ep]; exact b'), (hb.cell (p := ⟨g', k * 3 + 2, none⟩) hg').trans (by rw [eq]; exact c')⟩

theorem hx_next {w : World} {o : Option (List Key)} {E : Value} {s : Bool} {lv : Value} {is js : List Item} {bb : Nat} {W0 W W' : World} (h : Keeps w o E s lv is js bb W0 W) (hb : Below W.heap.size W W') : Keeps w o E s lv is js bb W0 W' := by
  obtain ⟨h1, h2, h3, h4, h5⟩ := h
  exact ⟨h1.later hb, ⟨(hb.cell (p := ⟨bb, 0, none⟩) h4).trans h2.1, (hb.cell (p := ⟨bb, 1, none⟩) h4).trans h2.2.1, (hb.cell (p := ⟨bb, 2, none⟩) h4).trans h2.2.2⟩, h3.later hb, Nat.lt_of_lt_of_le h4 hb.size, h5.trans (hb.mono h5.size)⟩

set_option maxRecDepth 100000 in
set_option maxHeartbeats 4000000 in
theorem tells_any (sv : Value) (acts : List ActV) (w : World) (he : Env w) (hs : ActsAt w sv acts) (hi : ∀ a ∈ acts, I64 a.code ∧ I64 a.pos) :
    Calls Tryd.prog 3 #[sv] w (Ans true w) := by
  have HH := Lib.hid (behind_any sv acts w he hs hi)
  have HE := Lib.hid he
  clear he hs hi
  go_enter Tryd.func3, Tryd.ntmps3
  go_wp2_with fail
  refine HH.out.mono ?_
  rintro e w1 ⟨o, E, s, lv, is, js, rfl, hb1, hg1⟩
  obtain ⟨n, hn⟩ : ∃ n, n = lenO o := ⟨_, rfl⟩
  have HN := Lib.hid hn
  clear hn
  obtain ⟨la, lcap, rfl⟩ : ∃ la lcap, lv = .slice la n lcap := by
    by_cases h0 : js = []
    · refine ⟨none, 0, ?_⟩
      have := hg1.r_len
      rw [hg1.nils h0, HN.out, ← this, h0]
      rfl
    · obtain ⟨g, cap, h1, _⟩ := hg1.row.cells (List.length_pos_iff.2 h0)
      exact ⟨some ⟨g, 0, none⟩, cap, by rw [h1, HN.out, ← hg1.r_len]⟩
  have hb2 : Below w1.heap.size w1 (w1.alloc (.cells #[E, .bool s, .slice la n lcap] 29)) := (Below.refl _ _).alloc (Nat.le_refl _) _
  have HX2 := Lib.hid (show Keeps w o E s (.slice la n lcap) is js w1.heap.size w (w1.alloc (.cells #[E, .bool s, .slice la n lcap] 29)) from ⟨hg1.later hb2, by
    have hh : (w1.alloc (.cells #[E, .bool s, .slice la n lcap] 29)).heap[w1.heap.size]? = some (.cells #[E, .bool s, .slice la n lcap] 29 (0, 0)) := World.alloc_heap_new _ _
    have := BothAt.cells hh
    exact ⟨this.1, this.2.1, this.2.2.1⟩, HE.out.later (hb1.trans (hb2.mono hb1.size)), by simp, hb1.trans (hb2.mono hb1.size)⟩)
  have HL := Lib.hid (links_any E is _ HX2.out.1.chain HX2.out.2.2.1.e (by have := hg1.e_len; have := hg1.small; omega))
  have hsh := hg1.shape
  have hel := hg1.e_len
  clear hb1 hg1 hb2
  rcases hsh with ⟨rfl, rfl, rfl⟩ | ⟨T, x, ks, rfl, rfl, rfl⟩
  · obtain rfl : n = 0 := HN.out
    have hE := fun W => run_neq_nil_nil (P := Tryd.prog) W 24 (by kernel_rfl)
    go_wp2_with fail
    refine HL.out.mono ?_
    rintro e w3 ⟨v, rfl, hb3, hown⟩
    obtain ⟨va, vcap, rfl⟩ : ∃ va vcap, v = .slice va 0 vcap := by
      obtain ⟨a, cap, rfl⟩ := links_slice hown
      exact ⟨a, cap, by rw [hel]; rfl⟩
    have HX3 := Lib.hid (hx_next HX2.out (hb3.trans (Below.drew (Below.refl _ _) |>.mono hb3.size)))
    have HS3 := Lib.hid (HX3.out.2.1)
    clear hown hb3 hel
    go_wp2_with fail
    refine wp_region_N (S1 := fun W => BCells W w1.heap.size (.nilIface) false (.slice la 0 lcap)) (S2 := fun _ => True) (N := fun _ => false) (by kernel_rfl) ?_
    change wpAnyN _ _ _ _ _ _ _ 34 (Array.replicate 34 false) _ _
    refine wpAnyN_take false (i := 0) (v := .pointer (some ⟨w1.heap.size, 0, none⟩)) rfl (by kernel_rfl) (by kernel_rfl) (by kernel_rfl) (fun _ _ _ h => h) (.inl ⟨by kernel_rfl, fun W hS => ?_⟩) ⟨HS3.out, fun h => by cases h⟩ ?_
    · simp [execOp, Act.eval, go_sem]
    refine wpAnyN_take false (i := 1) (v := .nilIface) rfl (by kernel_rfl) (by kernel_rfl) (by kernel_rfl) (fun _ _ _ h => h) (.inl ⟨by kernel_rfl, fun W hS => ?_⟩) ⟨HS3.out, fun h => by cases h⟩ ?_
    · simp [execOp, Act.eval, Act.put, go_sem, hS.1.1]
    refine wpAnyN_take false (i := 2) (v := .bool false) rfl (by kernel_rfl) (by kernel_rfl) (by kernel_rfl) (fun _ _ _ h => h) (.inl ⟨by kernel_rfl, fun W hS => ?_⟩) ⟨HS3.out, fun h => by cases h⟩ ?_
    · simp [execOp, Act.eval, Act.put, go_sem, hE]
    refine wpAnyN_take false (i := 3) (v := .pointer (some ⟨w1.heap.size, 1, none⟩)) rfl (by kernel_rfl) (by kernel_rfl) (by kernel_rfl) (fun _ _ _ h => h) (.inl ⟨by kernel_rfl, fun W hS => ?_⟩) ⟨HS3.out, fun h => by cases h⟩ ?_
    · simp [execOp, Act.eval, Act.put, go_sem]
    refine wpAnyN_take false (i := 4) (v := .pointer (some ⟨w1.heap.size, 1, none⟩)) rfl (by kernel_rfl) (by kernel_rfl) (by kernel_rfl) (fun _ _ _ h => h) (.inl ⟨by kernel_rfl, fun W hS => ?_⟩) ⟨HS3.out, fun h => by cases h⟩ ?_
    · simp [execOp, Act.eval, Act.put, go_sem]
    refine wpAnyN_take false (i := 5) (v := .bool false) rfl (by kernel_rfl) (by kernel_rfl) (by kernel_rfl) (fun _ _ _ h => h) (.inl ⟨by kernel_rfl, fun W hS => ?_⟩) ⟨HS3.out, fun h => by cases h⟩ ?_
    · simp [execOp, Act.eval, Act.put, go_sem, hS.1.2.1]
    refine wpAnyN_take false (i := 6) (v := .bool false) rfl (by kernel_rfl) (by kernel_rfl) (by kernel_rfl) (fun _ _ _ h => h) (.inl ⟨by kernel_rfl, fun W hS => ?_⟩) ⟨HS3.out, fun h => by cases h⟩ ?_
    · simp [execOp, Act.eval, Act.put, go_sem]
    refine wpAnyN_take false (i := 7) (v := .bool false) rfl (by kernel_rfl) (by kernel_rfl) (by kernel_rfl) (fun _ _ _ h => h) (.inl ⟨by kernel_rfl, fun W hS => ?_⟩) ⟨HS3.out, fun h => by cases h⟩ ?_
    · simp [execOp, Act.eval, Act.put, go_sem]
    refine wpAnyN_take false (i := 8) (v := .pointer (some ⟨w1.heap.size, 0, none⟩)) rfl (by kernel_rfl) (by kernel_rfl) (by kernel_rfl) (fun _ _ _ h => h) (.inl ⟨by kernel_rfl, fun W hS => ?_⟩) ⟨HS3.out, fun h => by cases h⟩ ?_
    · simp [execOp, Act.eval, Act.put, go_sem]
    refine wpAnyN_take false (i := 9) (v := .nilIface) rfl (by kernel_rfl) (by kernel_rfl) (by kernel_rfl) (fun _ _ _ h => h) (.inl ⟨by kernel_rfl, fun W hS => ?_⟩) ⟨HS3.out, fun h => by cases h⟩ ?_
    · simp [execOp, Act.eval, Act.put, go_sem, hS.1.1]
    refine wpAnyN_take false (i := 11) (v := .pointer (some ⟨w1.heap.size, 1, none⟩)) rfl (by kernel_rfl) (by kernel_rfl) (by kernel_rfl) (fun _ _ _ h => h) (.inl ⟨by kernel_rfl, fun W hS => ?_⟩) ⟨HS3.out, fun h => by cases h⟩ ?_
    · simp [execOp, Act.eval, Act.put, go_sem]
    refine wpAnyN_take false (i := 12) (v := .agg #[.bool false, .slice la 0 lcap]) rfl (by kernel_rfl) (by kernel_rfl) (by kernel_rfl) (fun _ _ _ h => h) (.inl ⟨by kernel_rfl, fun W hS => ?_⟩) ⟨HS3.out, fun h => by cases h⟩ ?_
    · simp [execOp, Act.eval, Act.put, go_sem, hS.1.2.1, hS.1.2.2]
    refine wpAnyN_step (i := 10) (by kernel_rfl) rfl (by kernel_rfl) ?_
    intro K' hK
    try simp only [Act.put]
    go_simp
    refine (e_code HX3.out.1 HX3.out.2.2.1).mono ?_
    rintro e w4 ⟨rfl, hb⟩
    have HX4 := Lib.hid (hx_next HX3.out hb)
    have HY4 := Lib.hid hb
    clear hb
    have HS4 := Lib.hid (HX4.out.2.1)
    refine hK.out _ _ HS4.out (fun h => absurd h (by decide)) ?_
    refine wpAnyN_step (i := 13) (by kernel_rfl) rfl (by kernel_rfl) ?_
    intro K' hK
    try simp only [Act.put]
    go_simp
    refine (r_code HX4.out.1).mono ?_
    rintro e w5 ⟨rfl, hb⟩
    have HX5 := Lib.hid (hx_next HX4.out hb)
    have HY5 := Lib.hid (HY4.out.trans (hb.mono HY4.out.size))
    clear hb
    have HS5 := Lib.hid (HX5.out.2.1)
    refine hK.out _ _ HS5.out (fun h => absurd h (by decide)) ?_
    refine wpAnyN_take false (i := 14) (v := .bool false) rfl (by kernel_rfl) (by kernel_rfl) (by kernel_rfl) (fun _ _ _ h => h) (.inl ⟨by kernel_rfl, fun W hS => ?_⟩) ⟨HS5.out, fun h => by cases h⟩ ?_
    · simp [execOp, Act.eval, go_sem]
    refine wpAnyN_take false (i := 15) (v := .bool false) rfl (by kernel_rfl) (by kernel_rfl) (by kernel_rfl) (fun _ _ _ h => h) (.inl ⟨by kernel_rfl, fun W hS => ?_⟩) ⟨HS5.out, fun h => by cases h⟩ ?_
    · simp [execOp, Act.eval, Act.put, go_sem]
    refine wpAnyN_take false (i := 16) (v := .bool false) rfl (by kernel_rfl) (by kernel_rfl) (by kernel_rfl) (fun _ _ _ h => h) (.inl ⟨by kernel_rfl, fun W hS => ?_⟩) ⟨HS5.out, fun h => by cases h⟩ ?_
    · simp [execOp, Act.eval, Act.put, go_sem]
    refine wpAnyN_take false (i := 17) (v := .pointer (some ⟨w1.heap.size, 0, none⟩)) rfl (by kernel_rfl) (by kernel_rfl) (by kernel_rfl) (fun _ _ _ h => h) (.inl ⟨by kernel_rfl, fun W hS => ?_⟩) ⟨HS5.out, fun h => by cases h⟩ ?_
    · simp [execOp, Act.eval, Act.put, go_sem]
    refine wpAnyN_take false (i := 18) (v := .nilIface) rfl (by kernel_rfl) (by kernel_rfl) (by kernel_rfl) (fun _ _ _ h => h) (.inl ⟨by kernel_rfl, fun W hS => ?_⟩) ⟨HS5.out, fun h => by cases h⟩ ?_
    · simp [execOp, Act.eval, Act.put, go_sem, hS.1.1]
    refine wpAnyN_take false (i := 20) (v := .pointer (some ⟨w1.heap.size, 1, none⟩)) rfl (by kernel_rfl) (by kernel_rfl) (by kernel_rfl) (fun _ _ _ h => h) (.inl ⟨by kernel_rfl, fun W hS => ?_⟩) ⟨HS5.out, fun h => by cases h⟩ ?_
    · simp [execOp, Act.eval, Act.put, go_sem]
    refine wpAnyN_take false (i := 21) (v := .agg #[.bool false, .slice la 0 lcap]) rfl (by kernel_rfl) (by kernel_rfl) (by kernel_rfl) (fun _ _ _ h => h) (.inl ⟨by kernel_rfl, fun W hS => ?_⟩) ⟨HS5.out, fun h => by cases h⟩ ?_
    · simp [execOp, Act.eval, Act.put, go_sem, hS.1.2.1, hS.1.2.2]
    refine wpAnyN_step (i := 19) (by kernel_rfl) rfl (by kernel_rfl) ?_
    intro K' hK
    try simp only [Act.put]
    go_simp
    refine (e_text HX5.out.1 HX5.out.2.2.1).mono ?_
    rintro e w6 ⟨rfl, hb⟩
    have HX6 := Lib.hid (hx_next HX5.out hb)
    have HY6 := Lib.hid (HY5.out.trans (hb.mono HY5.out.size))
    clear hb
    have HS6 := Lib.hid (HX6.out.2.1)
    refine hK.out _ _ HS6.out (fun h => absurd h (by decide)) ?_
    refine wpAnyN_step (i := 22) (by kernel_rfl) rfl (by kernel_rfl) ?_
    intro K' hK
    try simp only [Act.put]
    go_simp
    refine (r_text HX6.out.1).mono ?_
    rintro e w7 ⟨rfl, hb⟩
    have HX7 := Lib.hid (hx_next HX6.out hb)
    have HY7 := Lib.hid (HY6.out.trans (hb.mono HY6.out.size))
    clear hb
    have HS7 := Lib.hid (HX7.out.2.1)
    refine hK.out _ _ HS7.out (fun h => absurd h (by decide)) ?_
    refine wpAnyN_take false (i := 23) (v := .bool false) rfl (by kernel_rfl) (by kernel_rfl) (by kernel_rfl) (fun _ _ _ h => h) (.inl ⟨by kernel_rfl, fun W hS => ?_⟩) ⟨HS7.out, fun h => by cases h⟩ ?_
    · simp [execOp, Act.eval, go_sem]
    refine wpAnyN_take false (i := 24) (v := .bool false) rfl (by kernel_rfl) (by kernel_rfl) (by kernel_rfl) (fun _ _ _ h => h) (.inl ⟨by kernel_rfl, fun W hS => ?_⟩) ⟨HS7.out, fun h => by cases h⟩ ?_
    · simp [execOp, Act.eval, Act.put, go_sem]
    refine wpAnyN_take false (i := 25) (v := .bool false) rfl (by kernel_rfl) (by kernel_rfl) (by kernel_rfl) (fun _ _ _ h => h) (.inl ⟨by kernel_rfl, fun W hS => ?_⟩) ⟨HS7.out, fun h => by cases h⟩ ?_
    · simp [execOp, Act.eval, Act.put, go_sem]
    refine wpAnyN_take false (i := 26) (v := .slice va 0 vcap) rfl (by kernel_rfl) (by kernel_rfl) (by kernel_rfl) (fun _ _ _ h => h) (.inl ⟨by kernel_rfl, fun W hS => ?_⟩) ⟨HS7.out, fun h => by cases h⟩ ?_
    · simp [execOp, Act.eval, Act.put, go_sem]
    refine wpAnyN_take false (i := 27) (v := .int .i64 0) rfl (by kernel_rfl) (by kernel_rfl) (by kernel_rfl) (fun _ _ _ h => h) (.inl ⟨by kernel_rfl, fun W hS => ?_⟩) ⟨HS7.out, fun h => by cases h⟩ ?_
    · simp [execOp, Act.eval, Act.put, go_sem]
    refine wpAnyN_take false (i := 28) (v := .pointer (some ⟨w1.heap.size, 1, none⟩)) rfl (by kernel_rfl) (by kernel_rfl) (by kernel_rfl) (fun _ _ _ h => h) (.inl ⟨by kernel_rfl, fun W hS => ?_⟩) ⟨HS7.out, fun h => by cases h⟩ ?_
    · simp [execOp, Act.eval, Act.put, go_sem]
    refine wpAnyN_take false (i := 29) (v := .pointer (some ⟨w1.heap.size, 2, none⟩)) rfl (by kernel_rfl) (by kernel_rfl) (by kernel_rfl) (fun _ _ _ h => h) (.inl ⟨by kernel_rfl, fun W hS => ?_⟩) ⟨HS7.out, fun h => by cases h⟩ ?_
    · simp [execOp, Act.eval, Act.put, go_sem]
    refine wpAnyN_take false (i := 30) (v := .slice la 0 lcap) rfl (by kernel_rfl) (by kernel_rfl) (by kernel_rfl) (fun _ _ _ h => h) (.inl ⟨by kernel_rfl, fun W hS => ?_⟩) ⟨HS7.out, fun h => by cases h⟩ ?_
    · simp [execOp, Act.eval, Act.put, go_sem, hS.1.2.2]
    refine wpAnyN_take false (i := 31) (v := .int .i64 0) rfl (by kernel_rfl) (by kernel_rfl) (by kernel_rfl) (fun _ _ _ h => h) (.inl ⟨by kernel_rfl, fun W hS => ?_⟩) ⟨HS7.out, fun h => by cases h⟩ ?_
    · simp [execOp, Act.eval, Act.put, go_sem]
    refine wpAnyN_take false (i := 32) (v := .bool false) rfl (by kernel_rfl) (by kernel_rfl) (by kernel_rfl) (fun _ _ _ h => h) (.inl ⟨by kernel_rfl, fun W hS => ?_⟩) ⟨HS7.out, fun h => by cases h⟩ ?_
    · simp [execOp, Act.eval, Act.put, go_sem]
    refine wpAnyN_take false (i := 33) (v := .bool false) rfl (by kernel_rfl) (by kernel_rfl) (by kernel_rfl) (fun _ _ _ h => h) (.inl ⟨by kernel_rfl, fun W hS => ?_⟩) ⟨HS7.out, fun h => by cases h⟩ ?_
    · simp [execOp, Act.eval, Act.put, go_sem]
    refine wpAnyN_done (by kernel_rfl) ?_
    simp only [Act.put]
    go_simp
    have HA := Lib.hid (awake_any w7 HX7.out.2.2.1)
    go_wp2_with fail
    refine wp_loop_rounds 1 ?_
    rw [rounds_succ]
    go_wp2_with fail
    refine HA.out.mono ?_
    rintro e w8 ⟨rfl, hb8⟩
    go_wp2
    go_ret
    exact ⟨rfl, HX7.out.2.2.2.2.trans (hb8.mono HX7.out.2.2.2.2.size)⟩
  · have hE := fun W => run_neq_held_nil (P := Tryd.prog) W 24 T x (by kernel_rfl)
    go_wp2_with fail
    refine HL.out.mono ?_
    rintro e w3 ⟨v, rfl, hb3, hown⟩
    obtain ⟨va, vcap, rfl⟩ : ∃ va vcap, v = .slice va n vcap := by
      obtain ⟨a, cap, rfl⟩ := links_slice hown
      exact ⟨a, cap, by rw [hel, ← HN.out]⟩
    have HX3 := Lib.hid (hx_next HX2.out (hb3.trans (Below.drew (Below.refl _ _) |>.mono hb3.size)))
    have HS3 := Lib.hid (HX3.out.2.1)
    have HO := Lib.hid hown
    have HB3 := Lib.hid hb3
    have HEL := Lib.hid hel
    have HK := Lib.hid (show is.map Item.key = js.map Item.key from HX3.out.1.eres.2.trans HX3.out.1.rres.2.symm)
    clear hown hb3 hel
    go_wp2_with fail
    refine wp_region_N (S1 := fun W => BCells W w1.heap.size (.iface T x) true (.slice la n lcap)) (S2 := fun _ => True) (N := fun _ => false) (by kernel_rfl) ?_
    change wpAnyN _ _ _ _ _ _ _ 34 (Array.replicate 34 false) _ _
    refine wpAnyN_take false (i := 0) (v := .pointer (some ⟨w1.heap.size, 0, none⟩)) rfl (by kernel_rfl) (by kernel_rfl) (by kernel_rfl) (fun _ _ _ h => h) (.inl ⟨by kernel_rfl, fun W hS => ?_⟩) ⟨HS3.out, fun h => by cases h⟩ ?_
    · simp [execOp, Act.eval, go_sem]
    refine wpAnyN_take false (i := 1) (v := .iface T x) rfl (by kernel_rfl) (by kernel_rfl) (by kernel_rfl) (fun _ _ _ h => h) (.inl ⟨by kernel_rfl, fun W hS => ?_⟩) ⟨HS3.out, fun h => by cases h⟩ ?_
    · simp [execOp, Act.eval, Act.put, go_sem, hS.1.1]
    refine wpAnyN_take false (i := 2) (v := .bool true) rfl (by kernel_rfl) (by kernel_rfl) (by kernel_rfl) (fun _ _ _ h => h) (.inl ⟨by kernel_rfl, fun W hS => ?_⟩) ⟨HS3.out, fun h => by cases h⟩ ?_
    · simp [execOp, Act.eval, Act.put, go_sem, hE]
    refine wpAnyN_take false (i := 3) (v := .pointer (some ⟨w1.heap.size, 1, none⟩)) rfl (by kernel_rfl) (by kernel_rfl) (by kernel_rfl) (fun _ _ _ h => h) (.inl ⟨by kernel_rfl, fun W hS => ?_⟩) ⟨HS3.out, fun h => by cases h⟩ ?_
    · simp [execOp, Act.eval, Act.put, go_sem]
    refine wpAnyN_take false (i := 4) (v := .pointer (some ⟨w1.heap.size, 1, none⟩)) rfl (by kernel_rfl) (by kernel_rfl) (by kernel_rfl) (fun _ _ _ h => h) (.inl ⟨by kernel_rfl, fun W hS => ?_⟩) ⟨HS3.out, fun h => by cases h⟩ ?_
    · simp [execOp, Act.eval, Act.put, go_sem]
    refine wpAnyN_take false (i := 5) (v := .bool true) rfl (by kernel_rfl) (by kernel_rfl) (by kernel_rfl) (fun _ _ _ h => h) (.inl ⟨by kernel_rfl, fun W hS => ?_⟩) ⟨HS3.out, fun h => by cases h⟩ ?_
    · simp [execOp, Act.eval, Act.put, go_sem, hS.1.2.1]
    refine wpAnyN_take false (i := 6) (v := .bool false) rfl (by kernel_rfl) (by kernel_rfl) (by kernel_rfl) (fun _ _ _ h => h) (.inl ⟨by kernel_rfl, fun W hS => ?_⟩) ⟨HS3.out, fun h => by cases h⟩ ?_
    · simp [execOp, Act.eval, Act.put, go_sem]
    refine wpAnyN_take false (i := 7) (v := .bool false) rfl (by kernel_rfl) (by kernel_rfl) (by kernel_rfl) (fun _ _ _ h => h) (.inl ⟨by kernel_rfl, fun W hS => ?_⟩) ⟨HS3.out, fun h => by cases h⟩ ?_
    · simp [execOp, Act.eval, Act.put, go_sem]
    refine wpAnyN_take false (i := 8) (v := .pointer (some ⟨w1.heap.size, 0, none⟩)) rfl (by kernel_rfl) (by kernel_rfl) (by kernel_rfl) (fun _ _ _ h => h) (.inl ⟨by kernel_rfl, fun W hS => ?_⟩) ⟨HS3.out, fun h => by cases h⟩ ?_
    · simp [execOp, Act.eval, Act.put, go_sem]
    refine wpAnyN_take false (i := 9) (v := .iface T x) rfl (by kernel_rfl) (by kernel_rfl) (by kernel_rfl) (fun _ _ _ h => h) (.inl ⟨by kernel_rfl, fun W hS => ?_⟩) ⟨HS3.out, fun h => by cases h⟩ ?_
    · simp [execOp, Act.eval, Act.put, go_sem, hS.1.1]
    refine wpAnyN_take false (i := 11) (v := .pointer (some ⟨w1.heap.size, 1, none⟩)) rfl (by kernel_rfl) (by kernel_rfl) (by kernel_rfl) (fun _ _ _ h => h) (.inl ⟨by kernel_rfl, fun W hS => ?_⟩) ⟨HS3.out, fun h => by cases h⟩ ?_
    · simp [execOp, Act.eval, Act.put, go_sem]
    refine wpAnyN_take false (i := 12) (v := .agg #[.bool true, .slice la n lcap]) rfl (by kernel_rfl) (by kernel_rfl) (by kernel_rfl) (fun _ _ _ h => h) (.inl ⟨by kernel_rfl, fun W hS => ?_⟩) ⟨HS3.out, fun h => by cases h⟩ ?_
    · simp [execOp, Act.eval, Act.put, go_sem, hS.1.2.1, hS.1.2.2]
    refine wpAnyN_step (i := 10) (by kernel_rfl) rfl (by kernel_rfl) ?_
    intro K' hK
    try simp only [Act.put]
    go_simp
    refine (e_code HX3.out.1 HX3.out.2.2.1).mono ?_
    rintro e w4 ⟨rfl, hb⟩
    have HX4 := Lib.hid (hx_next HX3.out hb)
    have HY4 := Lib.hid hb
    clear hb
    have HS4 := Lib.hid (HX4.out.2.1)
    refine hK.out _ _ HS4.out (fun h => absurd h (by decide)) ?_
    refine wpAnyN_step (i := 13) (by kernel_rfl) rfl (by kernel_rfl) ?_
    intro K' hK
    try simp only [Act.put]
    go_simp
    refine (r_code HX4.out.1).mono ?_
    rintro e w5 ⟨rfl, hb⟩
    have HX5 := Lib.hid (hx_next HX4.out hb)
    have HY5 := Lib.hid (HY4.out.trans (hb.mono HY4.out.size))
    clear hb
    have HS5 := Lib.hid (HX5.out.2.1)
    refine hK.out _ _ HS5.out (fun h => absurd h (by decide)) ?_
    refine wpAnyN_take false (i := 14) (v := .bool false) rfl (by kernel_rfl) (by kernel_rfl) (by kernel_rfl) (fun _ _ _ h => h) (.inl ⟨by kernel_rfl, fun W hS => ?_⟩) ⟨HS5.out, fun h => by cases h⟩ ?_
    · simp [execOp, Act.eval, go_sem]
    refine wpAnyN_take false (i := 15) (v := .bool false) rfl (by kernel_rfl) (by kernel_rfl) (by kernel_rfl) (fun _ _ _ h => h) (.inl ⟨by kernel_rfl, fun W hS => ?_⟩) ⟨HS5.out, fun h => by cases h⟩ ?_
    · simp [execOp, Act.eval, Act.put, go_sem]
    refine wpAnyN_take false (i := 16) (v := .bool false) rfl (by kernel_rfl) (by kernel_rfl) (by kernel_rfl) (fun _ _ _ h => h) (.inl ⟨by kernel_rfl, fun W hS => ?_⟩) ⟨HS5.out, fun h => by cases h⟩ ?_
    · simp [execOp, Act.eval, Act.put, go_sem]
    refine wpAnyN_take false (i := 17) (v := .pointer (some ⟨w1.heap.size, 0, none⟩)) rfl (by kernel_rfl) (by kernel_rfl) (by kernel_rfl) (fun _ _ _ h => h) (.inl ⟨by kernel_rfl, fun W hS => ?_⟩) ⟨HS5.out, fun h => by cases h⟩ ?_
    · simp [execOp, Act.eval, Act.put, go_sem]
    refine wpAnyN_take false (i := 18) (v := .iface T x) rfl (by kernel_rfl) (by kernel_rfl) (by kernel_rfl) (fun _ _ _ h => h) (.inl ⟨by kernel_rfl, fun W hS => ?_⟩) ⟨HS5.out, fun h => by cases h⟩ ?_
    · simp [execOp, Act.eval, Act.put, go_sem, hS.1.1]
    refine wpAnyN_take false (i := 20) (v := .pointer (some ⟨w1.heap.size, 1, none⟩)) rfl (by kernel_rfl) (by kernel_rfl) (by kernel_rfl) (fun _ _ _ h => h) (.inl ⟨by kernel_rfl, fun W hS => ?_⟩) ⟨HS5.out, fun h => by cases h⟩ ?_
    · simp [execOp, Act.eval, Act.put, go_sem]
    refine wpAnyN_take false (i := 21) (v := .agg #[.bool true, .slice la n lcap]) rfl (by kernel_rfl) (by kernel_rfl) (by kernel_rfl) (fun _ _ _ h => h) (.inl ⟨by kernel_rfl, fun W hS => ?_⟩) ⟨HS5.out, fun h => by cases h⟩ ?_
    · simp [execOp, Act.eval, Act.put, go_sem, hS.1.2.1, hS.1.2.2]
    refine wpAnyN_step (i := 19) (by kernel_rfl) rfl (by kernel_rfl) ?_
    intro K' hK
    try simp only [Act.put]
    go_simp
    refine (e_text HX5.out.1 HX5.out.2.2.1).mono ?_
    rintro e w6 ⟨rfl, hb⟩
    have HX6 := Lib.hid (hx_next HX5.out hb)
    have HY6 := Lib.hid (HY5.out.trans (hb.mono HY5.out.size))
    clear hb
    have HS6 := Lib.hid (HX6.out.2.1)
    refine hK.out _ _ HS6.out (fun h => absurd h (by decide)) ?_
    refine wpAnyN_step (i := 22) (by kernel_rfl) rfl (by kernel_rfl) ?_
    intro K' hK
    try simp only [Act.put]
    go_simp
    refine (r_text HX6.out.1).mono ?_
    rintro e w7 ⟨rfl, hb⟩
    have HX7 := Lib.hid (hx_next HX6.out hb)
    have HY7 := Lib.hid (HY6.out.trans (hb.mono HY6.out.size))
    clear hb
    have HS7 := Lib.hid (HX7.out.2.1)
    refine hK.out _ _ HS7.out (fun h => absurd h (by decide)) ?_
    refine wpAnyN_take false (i := 23) (v := .bool false) rfl (by kernel_rfl) (by kernel_rfl) (by kernel_rfl) (fun _ _ _ h => h) (.inl ⟨by kernel_rfl, fun W hS => ?_⟩) ⟨HS7.out, fun h => by cases h⟩ ?_
    · simp [execOp, Act.eval, go_sem]
    refine wpAnyN_take false (i := 24) (v := .bool false) rfl (by kernel_rfl) (by kernel_rfl) (by kernel_rfl) (fun _ _ _ h => h) (.inl ⟨by kernel_rfl, fun W hS => ?_⟩) ⟨HS7.out, fun h => by cases h⟩ ?_
    · simp [execOp, Act.eval, Act.put, go_sem]
    refine wpAnyN_take false (i := 25) (v := .bool false) rfl (by kernel_rfl) (by kernel_rfl) (by kernel_rfl) (fun _ _ _ h => h) (.inl ⟨by kernel_rfl, fun W hS => ?_⟩) ⟨HS7.out, fun h => by cases h⟩ ?_
    · simp [execOp, Act.eval, Act.put, go_sem]
    refine wpAnyN_take false (i := 26) (v := .slice va n vcap) rfl (by kernel_rfl) (by kernel_rfl) (by kernel_rfl) (fun _ _ _ h => h) (.inl ⟨by kernel_rfl, fun W hS => ?_⟩) ⟨HS7.out, fun h => by cases h⟩ ?_
    · simp [execOp, Act.eval, Act.put, go_sem]
    refine wpAnyN_take false (i := 27) (v := .int .i64 n) rfl (by kernel_rfl) (by kernel_rfl) (by kernel_rfl) (fun _ _ _ h => h) (.inl ⟨by kernel_rfl, fun W hS => ?_⟩) ⟨HS7.out, fun h => by cases h⟩ ?_
    · simp [execOp, Act.eval, Act.put, go_sem]
    refine wpAnyN_take false (i := 28) (v := .pointer (some ⟨w1.heap.size, 1, none⟩)) rfl (by kernel_rfl) (by kernel_rfl) (by kernel_rfl) (fun _ _ _ h => h) (.inl ⟨by kernel_rfl, fun W hS => ?_⟩) ⟨HS7.out, fun h => by cases h⟩ ?_
    · simp [execOp, Act.eval, Act.put, go_sem]
    refine wpAnyN_take false (i := 29) (v := .pointer (some ⟨w1.heap.size, 2, none⟩)) rfl (by kernel_rfl) (by kernel_rfl) (by kernel_rfl) (fun _ _ _ h => h) (.inl ⟨by kernel_rfl, fun W hS => ?_⟩) ⟨HS7.out, fun h => by cases h⟩ ?_
    · simp [execOp, Act.eval, Act.put, go_sem]
    refine wpAnyN_take false (i := 30) (v := .slice la n lcap) rfl (by kernel_rfl) (by kernel_rfl) (by kernel_rfl) (fun _ _ _ h => h) (.inl ⟨by kernel_rfl, fun W hS => ?_⟩) ⟨HS7.out, fun h => by cases h⟩ ?_
    · simp [execOp, Act.eval, Act.put, go_sem, hS.1.2.2]
    refine wpAnyN_take false (i := 31) (v := .int .i64 n) rfl (by kernel_rfl) (by kernel_rfl) (by kernel_rfl) (fun _ _ _ h => h) (.inl ⟨by kernel_rfl, fun W hS => ?_⟩) ⟨HS7.out, fun h => by cases h⟩ ?_
    · simp [execOp, Act.eval, Act.put, go_sem]
    refine wpAnyN_take false (i := 32) (v := .bool false) rfl (by kernel_rfl) (by kernel_rfl) (by kernel_rfl) (fun _ _ _ h => h) (.inl ⟨by kernel_rfl, fun W hS => ?_⟩) ⟨HS7.out, fun h => by cases h⟩ ?_
    · simp [execOp, Act.eval, Act.put, go_sem]
    refine wpAnyN_take false (i := 33) (v := .bool false) rfl (by kernel_rfl) (by kernel_rfl) (by kernel_rfl) (fun _ _ _ h => h) (.inl ⟨by kernel_rfl, fun W hS => ?_⟩) ⟨HS7.out, fun h => by cases h⟩ ?_
    · simp [execOp, Act.eval, Act.put, go_sem]
    refine wpAnyN_done (by kernel_rfl) ?_
    simp only [Act.put]
    go_simp
    have HRW := Lib.hid (rows_at (show LinksAt w3.drew.heap.size w3.drew (.slice va n vcap) is from linksAt_of_own HO.out) HX3.out.1.row HK.out)
    go_wp2_with fail
    go_loopg [5] n (fun g x wr => ∃ k : Nat, k ≤ n ∧ g = n - k ∧ x = .int .i64 k ∧ Below w7.heap.size w7 wr)
    case atStart => exact ⟨0, Nat.zero_le _, rfl, rfl, Below.refl _ _⟩
    case round =>
      obtain ⟨k, hk, hgk, rfl, hbr⟩ := hrel
      have HGK := Lib.hid hgk
      have HBR := Lib.hid hbr
      have HXR := Lib.hid (hx_next HX7.out hbr)
      by_cases hlt : k < n
      · obtain ⟨g, g', hva, hla, hcc⟩ := HRW.out (by have := HEL.out; have := HN.out; omega)
        subst hva hla
        obtain ⟨c, p, q, hc⟩ := hcc k (by have := HEL.out; have := HN.out; omega)
        have hb7 : Below w3.drew.heap.size w3.drew wr := HY7.out.trans (hbr.mono HY7.out.size)
        obtain ⟨c0, c1, c2, e0, e1, e2⟩ := hc wr hb7
        obtain ⟨d0, d1, d2⟩ := HXR.out.2.1
        have hk40 : k < 40 := by have := HX3.out.1.small; have := HN.out; omega
        clear hc hcc hb7 hbr hgk
        go_wp2_with fail
        go_quiet (fail)
        go_wp2_with fail
        go_roundg (n - (k + 1))
        case measure => have := HGK.out; omega
        case rel => exact ⟨k + 1, hlt, rfl, by go_num, below_drewN HBR.out _⟩
      · obtain rfl : k = n := by omega
        have HA := Lib.hid (awake_any wr HXR.out.2.2.1)
        clear hbr hgk
        go_wp2_with fail
        refine HA.out.mono ?_
        rintro e w8 ⟨rfl, hb8⟩
        go_wp2
        go_ret
        exact ⟨rfl, HXR.out.2.2.2.2.trans (hb8.mono HXR.out.2.2.2.2.size)⟩
end Go.Proofs.YtciebpijdgdcjaaDoor
