/-
  The law's 'behind': both the program's error and the reference's chain, step by step.
  Conditions: start-up's two variables are as laid; the numbers are ints.
-/
import Derived.Test.YtciebpijdgdcjaaDoorGood
import Derived.Deep.LoopGhost
import Derived.Deep.CutRange
namespace Go.Proofs.YtciebpijdgdcjaaDoor
open Go.RowKit Go.Extern.Stop Go.Stop Go.Extern

def ACells (W : World) (ab : Nat) (kind code : Int) (part : ByteArray) (pos : Int) : Prop :=
  W.cell? ⟨ab, 0, none⟩ = some (.int .i64 kind) ∧ W.cell? ⟨ab, 1, none⟩ = some (.int .i64 code) ∧ W.cell? ⟨ab, 2, none⟩ = some (.string part) ∧ W.cell? ⟨ab, 3, none⟩ = some (.int .i64 pos)
def BCells (W : World) (bb : Nat) (E : Value) (s : Bool) (lv : Value) : Prop :=
  W.cell? ⟨bb, 0, none⟩ = some E ∧ W.cell? ⟨bb, 1, none⟩ = some (.bool s) ∧ W.cell? ⟨bb, 2, none⟩ = some lv

def ZeroAt (wr : World) (b : Nat) : Prop := wr.heap[b]? = some (.cells #[.nilIface, .bool false, .slice none 0 0] 29 (0, 0))

/-- Behind k rounds of m. -/
def BRel (w : World) (m : Nat) (g : Nat) (x : Value) (wr : World) : Prop :=
  ∃ k : Nat, k ≤ m ∧ g = m - k ∧ x = .int .i64 k ∧ ∃ o E s lv is js, BothAt wr (w.heap.size + 1) E s lv ∧ ZeroAt wr w.heap.size ∧ Good (w.heap.size + 2) wr o E s lv is js k ∧ Below w.heap.size w wr

/-- What 'behind' comes to. -/
def BehindPost (w : World) (e : Ending) (w' : World) : Prop :=
  ∃ o E s lv is js, e = .returned (.agg #[E, .bool s, lv]) ∧ Below w.heap.size w w' ∧ Good (w.heap.size + 2) w' o E s lv is js 40

/-- The part as the law cuts it. -/
def cutPart (p : ByteArray) : ByteArray := if p.size ≤ 60 then p else p.extract 0 60

theorem cutPart_size (p : ByteArray) : (cutPart p).size ≤ 60 := by
  unfold cutPart
  split
  · assumption
  · rw [ByteArray.size_extract]; omega

theorem ACells.later {W W' : World} {ab : Nat} {kind code pos : Int} {part : ByteArray} (h : ACells W ab kind code part pos) (hlt : ab < W.heap.size) (hb : Below W.heap.size W W') : ACells W' ab kind code part pos :=
  ⟨(hb.cell (p := ⟨ab, 0, none⟩) hlt).trans h.1, (hb.cell (p := ⟨ab, 1, none⟩) hlt).trans h.2.1, (hb.cell (p := ⟨ab, 2, none⟩) hlt).trans h.2.2.1, (hb.cell (p := ⟨ab, 3, none⟩) hlt).trans h.2.2.2⟩

theorem cell_other (W : World) (b o : Nat) (x : Value) (a i : Nat) (h : a ≠ b) : (W.setCell ⟨b, o, none⟩ x).cell? ⟨a, i, none⟩ = W.cell? ⟨a, i, none⟩ := by
  unfold World.cell?
  rw [Below.heap_setCell _ _ _ _ h]

theorem ACells.set {W : World} {ab : Nat} {kind code pos : Int} {part : ByteArray} (h : ACells W ab kind code part pos) (b o : Nat) (hne : ab ≠ b) (x : Value) : ACells (W.setCell ⟨b, o, none⟩ x) ab kind code part pos := by
  unfold ACells
  simp only [cell_other _ _ _ _ _ _ hne]
  exact h

theorem Chain.face {B : Nat} {w : World} {v : Value} {is : List Item} (c : Chain B w v is) : (v = .nilIface ∨ ∃ T x, v = .iface T x) ∧ v.cells = #[v] ∧ v.oneCell' = true := by
  cases c
  · exact ⟨.inl rfl, rfl, rfl⟩
  · exact ⟨.inr ⟨_, _, rfl⟩, rfl, rfl⟩
  · exact ⟨.inr ⟨_, _, rfl⟩, rfl, rfl⟩
  · exact ⟨.inr ⟨_, _, rfl⟩, rfl, rfl⟩

theorem ZeroAt.later {W W' : World} {b : Nat} (h : ZeroAt W b) (hb : Below W.heap.size W W') : ZeroAt W' b := by
  unfold ZeroAt
  rw [hb.block _ (Array.getElem?_eq_some_iff.1 h).1]
  exact h

theorem ZeroAt.set {W : World} {b bb : Nat} (h : ZeroAt W b) (hne : b ≠ bb) (o : Nat) (x : Value) : ZeroAt (W.setCell ⟨bb, o, none⟩ x) b := by
  unfold ZeroAt
  rw [Below.heap_setCell _ _ _ _ hne]
  exact h

/-- A round's end: both variables are stored. -/
theorem round_rel0 {w w2 : World} {o' : Option (List Key)} {E E1 : Value} {s s2 : Bool} {lv lv2 : Value} {is1 js2 : List Item} {k m : Nat} (hk : k < m) (hbw : Below w.heap.size w w2) (hz : ZeroAt w2 w.heap.size)
    (hg : Good (w.heap.size + 2) w2 o' E1 s2 lv2 is1 js2 (k + 1)) (hB : BothAt w2 (w.heap.size + 1) E s lv) :
    BRel w m (m - (k + 1)) (.int .i64 ((k + 1 : Nat) : Int)) (bothW w2 (w.heap.size + 1) E1 s2 lv2) :=
  ⟨k + 1, hk, rfl, rfl, o', E1, s2, _, is1, js2, bothW_at hB, ((hz.set (by omega) 0 _).set (by omega) 1 _).set (by omega) 2 _, bothW_good hB hg, bothW_below hbw (by omega) _ _ _⟩

theorem round_rel {w wc w1 w2 : World} {o' : Option (List Key)} {E E1 : Value} {s s2 : Bool} {lv : Value} {a2 : Option Addr} {n2 c2 : Nat} {is1 js2 : List Item} {k m : Nat} (hk : k < m) (hbw : Below w.heap.size w wc) (hz : ZeroAt wc w.heap.size)
    (hb1 : Below wc.drew.heap.size wc.drew w1) (hch1 : Chain w1.heap.size w1 E1 is1) (hr1 : ERes o' E1 is1) (hb2 : Below w1.heap.size w1 w2) (hrow : RAt (w.heap.size + 2) w2 (.slice a2 n2 c2) js2) (hnil : js2 = [] → Value.slice a2 n2 c2 = .slice none 0 0)
    (hr2 : RRes o' s2 js2) (hB : BothAt w2 (w.heap.size + 1) E s lv) (hok : ∀ ks, o' = some ks → ∀ x ∈ ks, keyOk x) (hlen : ∀ ks, o' = some ks → ks.length ≤ k + 1) :
    BRel w m (m - (k + 1)) (.int .i64 ((k + 1 : Nat) : Int)) (bothW w2 (w.heap.size + 1) E1 s2 (.slice a2 n2 c2)) := by
  have hb12 : Below wc.drew.heap.size wc.drew w2 := hb1.trans (hb2.mono hb1.size)
  have hw2 : Below w.heap.size w w2 := hbw.drew.trans (hb12.mono hbw.size)
  exact round_rel0 hk hw2 (ZeroAt.later (W := wc.drew) hz hb12) ⟨hch1.later hb2, hr1, hrow, hnil, hr2, hok, hlen⟩ hB

/-- A round's end: the error alone is stored. -/
theorem round_rel1 {w w2 : World} {o' : Option (List Key)} {E E1 : Value} {s : Bool} {lv : Value} {is js : List Item} {k m : Nat} (hk : k < m) (hbw : Below w.heap.size w w2) (hz : ZeroAt w2 w.heap.size)
    (hg : Good (w.heap.size + 2) w2 o' E1 s lv is js (k + 1)) (hB : BothAt w2 (w.heap.size + 1) E s lv) :
    BRel w m (m - (k + 1)) (.int .i64 ((k + 1 : Nat) : Int)) (w2.setCell ⟨w.heap.size + 1, 0, none⟩ E1) := by
  refine ⟨k + 1, hk, rfl, rfl, o', E1, s, lv, is, js, heap_setCell_at _ _ _ _ _ _ _ hB, hz.set (by omega) 0 _, ⟨?_, hg.eres, ?_, hg.nils, hg.rres, hg.ok, hg.len⟩, hbw.setCell (by show w.heap.size ≤ w.heap.size + 1; omega) _⟩
  · have := hg.chain.setOther hB (by decide) 0 E1
    simpa using this
  · exact hg.row.setOther hB (by decide) 0 E1

abbrev ZObj : Obj := .cells #[.nilIface, .bool false, .slice none 0 0] 29 (0, 0)

/-- A round that changes nothing. -/
theorem round_same {w w2 : World} {o' : Option (List Key)} {E : Value} {s : Bool} {lv : Value} {is js : List Item} {k m : Nat} (hk : k < m) (hbw : Below w.heap.size w w2) (hz : ZeroAt w2 w.heap.size)
    (hg : Good (w.heap.size + 2) w2 o' E s lv is js k) (hB : BothAt w2 (w.heap.size + 1) E s lv) :
    BRel w m (m - (k + 1)) (.int .i64 ((k + 1 : Nat) : Int)) w2 := ⟨k + 1, hk, rfl, rfl, o', E, s, lv, is, js, hB, hz, hg.up, hbw⟩

theorem good_alien {w : World} {base : Nat} {k : Nat} (n : Int) : Good base w (some []) (.iface 61 (.agg #[.int .i64 n])) true (.slice none 0 0) [] [] k :=
  ⟨.alien n, ⟨by simp, rfl⟩, rat_nil _ _, fun _ => rfl, ⟨rfl, rfl⟩, (by intro ks e x hx; cases e; cases hx), (by intro ks e; cases e; exact Nat.zero_le _)⟩

theorem good_around {w : World} {base : Nat} {o : Option (List Key)} {T : TypeId} {x : Value} {s : Bool} {lv : Value} {is js : List Item} {k : Nat} (h : Good base w o (.iface T x) s lv is js k) : Good base w o (.iface 68 (.agg #[.iface T x])) s lv is js (k + 1) := by
  refine ⟨.around (by simp) h.chain, ?_, h.row, h.nils, h.rres, h.ok, h.up.len⟩
  have := h.eres
  cases o with
  | none => cases this.1
  | some ks => exact ⟨by simp, this.2⟩

theorem good_zero (w : World) (base : Nat) (k : Nat) : Good base w none .nilIface false (.slice none 0 0) [] [] k :=
  ⟨.nil, ⟨rfl, rfl⟩, rat_nil _ _, fun _ => rfl, ⟨rfl, rfl⟩, (by intro ks e; cases e), (by intro ks e; cases e)⟩

theorem start_rel (w : World) (m : Nat) : BRel w m m (.int .i64 0) ((w.alloc ZObj).alloc ZObj) := by
  refine ⟨0, Nat.zero_le _, rfl, rfl, none, _, _, _, [], [], ?_, ?_, good_zero _ _ _, ((Below.refl _ _).alloc (Nat.le_refl _) _).alloc (by simp) _⟩
  · have := World.alloc_heap_new (w.alloc ZObj) ZObj
    rw [World.size_alloc] at this
    exact this
  · unfold ZeroAt
    rw [Below.heap_alloc _ _ _ (by simp)]
    exact World.alloc_heap_new _ _

theorem behind_end {w wr : World} {o : Option (List Key)} {E : Value} {s : Bool} {la : Option Addr} {ln lc : Nat} {is js : List Item} (hz : ZeroAt wr w.heap.size) (hg : Good (w.heap.size + 2) wr o E s (.slice la ln lc) is js 40) (hb : Below w.heap.size w wr) :
    BehindPost w (.returned (.agg #[E, .bool s, .slice la ln lc])) (bothW wr w.heap.size E s (.slice la ln lc)) :=
  ⟨o, E, s, _, is, js, rfl, bothW_below hb (Nat.le_refl _) _ _ _, bothW_good (E := .nilIface) (s := false) (lv := .slice none 0 0) hz hg⟩

abbrev ActObj (kind code : Int) (part : ByteArray) (pos : Int) : Obj := .cells #[.int .i64 kind, .int .i64 code, .string part, .int .i64 pos] 50 (0, 0)

set_option maxRecDepth 100000 in
set_option maxHeartbeats 4000000 in
theorem behind_any (sv : Value) (acts : List ActV) (w : World) (he : Env w) (hs : ActsAt w sv acts) (hi : ∀ a ∈ acts, I64 a.code ∧ I64 a.pos) :
    Calls Tryd.prog 7 #[sv] w (BehindPost w) := by
  rcases hs with ⟨rfl, a, cap, rfl⟩ | ⟨b, off, cap, rfl, hb, hmax, hcells⟩
  · go_enter Tryd.func7, Tryd.ntmps7
    go_wp2_with fail
    refine wp_loop_rounds 1 ?_
    rw [rounds_succ]
    go_wp2_with fail
    refine bodyPost_ret (v := .agg #[.nilIface, .bool false, .slice none 0 0]) (by simp [results, Tryd.results7, go_sem]) rfl ?_
    exact ⟨none, _, _, _, [], [], rfl, ((Below.refl _ _).alloc (Nat.le_refl _) _).alloc (by simp) _, good_zero _ _ _⟩
  · have HE := Lib.hid he
    have HC := Lib.hid hcells
    have HI := Lib.hid hi
    obtain ⟨m, hm⟩ : ∃ m, m = min acts.length 40 := ⟨_, rfl⟩
    have HM := Lib.hid hm
    clear he hcells hm hi
    go_enter Tryd.func7, Tryd.ntmps7
    have H0 := Lib.hid (start_rel w m)
    go_wp2_with fail
    go_loopg [4] m (fun g x wr => BRel w m g x wr)
    case atStart => exact H0.out
    case round =>
      obtain ⟨k, hk, hgk, rfl, o, E, s, lv, is, js, hbb, hrb, hG, hbr⟩ := hrel
      by_cases hlt : k < m
      · have hk1 : k < acts.length := by have := HM.out; omega
        have hk2 : k < 40 := by have := HM.out; omega
        obtain ⟨q0, q1, q2, q3⟩ := HC.out k hk1
        have r0 := (hbr.cell (p := ⟨b, off + k * 4, none⟩) hb).trans q0
        have r1 := (hbr.cell (p := ⟨b, off + k * 4 + 1, none⟩) hb).trans q1
        have r2 := (hbr.cell (p := ⟨b, off + k * 4 + 2, none⟩) hb).trans q2
        have r3 := (hbr.cell (p := ⟨b, off + k * 4 + 3, none⟩) hb).trans q3
        have HB := Lib.hid hbb
        have HZ := Lib.hid hrb
        have HG := Lib.hid hG
        have HBR := Lib.hid hbr
        have HGK := Lib.hid hgk
        clear q0 q1 q2 q3 hbb hrb hG hbr hgk
        go_upto_if 23 with fail
        go_cut [29] from 6 to 106 (fun s29 wx => wx = wr.alloc (ActObj acts[k].kind acts[k].code (cutPart acts[k].part) acts[k].pos))
        case first =>
          by_cases hl : acts[k].part.size ≤ 60
          · go_wp2_with fail
            go_meet
            unfold cutPart
            rw [if_pos hl]
          · have hl2 : 60 < acts[k].part.size := by omega
            go_wp2_with fail
            go_meet
            unfold cutPart
            rw [if_neg hl]
        case rest =>
          obtain ⟨kind, code, part, pos, hA, hi1, hi2, hi3⟩ : ∃ kind code part pos, ACells wc wr.heap.size kind code part pos ∧ I64 code ∧ I64 pos ∧ part.size ≤ 60 := by
            have hh := HI.out acts[k] (List.getElem_mem hk1)
            refine ⟨acts[k].kind, acts[k].code, cutPart acts[k].part, acts[k].pos, ?_, hh.1, hh.2, cutPart_size _⟩
            subst hcut
            have := cell_of_block4 (World.alloc_heap_new wr (ActObj acts[k].kind acts[k].code (cutPart acts[k].part) acts[k].pos))
            exact this
          have hbc : Below wr.heap.size wr wc := by subst hcut; exact (Below.refl _ _).alloc (Nat.le_refl _) _
          have hsz : wr.heap.size < wc.heap.size := by subst hcut; simp
          clear hcut r0 r1 r2 r3
          have HBW := Lib.hid (HBR.out.trans (hbc.mono HBR.out.size))
          have HBC := Lib.hid hbc
          have HG1 := Lib.hid (HG.out.later hbc)
          have HB1 := Lib.hid (HB.out.later hbc)
          have HZ1 := Lib.hid (show ZeroAt wc w.heap.size from by have := HZ.out; unfold ZeroAt at *; rw [hbc.block _ (Array.getElem?_eq_some_iff.1 this).1]; exact this)
          obtain ⟨la, ln, lc, rfl⟩ := HG.out.row.slice
          have HS1 := Lib.hid (show ACells wc.drew wr.heap.size kind code part pos from hA)
          have HS2 := Lib.hid (show BCells wc.drew (w.heap.size + 1) E s (.slice la ln lc) from ⟨HB1.out.cells.1, HB1.out.cells.2.1, HB1.out.cells.2.2.1⟩)
          have hk0 := hA.1
          have HAB := Lib.hid (show wr.heap.size < wc.drew.heap.size from hsz)
          have HBB := Lib.hid (show w.heap.size + 1 < wr.heap.size from (Array.getElem?_eq_some_iff.1 HB.out).1)
          have HG2 := Lib.hid (HG1.out.later ((Below.refl _ _).drew : Below wc.heap.size wc wc.drew))
          have HE2 := Lib.hid (HE.out.later HBW.out.drew)
          have HB2 := Lib.hid (show BothAt wc.drew (w.heap.size + 1) E s (.slice la ln lc) from HB1.out)
          have HGc := HG1
          clear hbc hA HB HZ HG HBR hsz HG1 HB1
          by_cases h0 : kind = 0
          · subst h0
            have HC1 := Lib.hid (e_new code part pos wc.drew)
            go_wp2_with fail
            refine wp_region_N (S1 := fun W => ACells W wr.heap.size 0 code part pos) (S2 := fun W => BCells W (w.heap.size + 1) E s (.slice la ln lc)) (N := fun i => decide (i < 14)) (by kernel_rfl) ?_
            change wpAnyN _ _ _ _ _ _ _ 18 (Array.replicate 18 false) _ _
            refine wpAnyN_take false (i := 0) (v := .pointer (some ⟨wr.heap.size, 1, none⟩)) rfl (by kernel_rfl) (by kernel_rfl) (by kernel_rfl) (fun _ _ _ h => h) (.inl ⟨by rfl, fun W hS => ?_⟩) ⟨HS1.out, fun h => by cases h⟩ ?_
            · simp [execOp, Act.eval, go_sem]
            refine wpAnyN_take false (i := 1) (v := .int .i64 code) rfl (by kernel_rfl) (by kernel_rfl) (by kernel_rfl) (fun _ _ _ h => h) (.inl ⟨by rfl, fun W hS => ?_⟩) ⟨HS1.out, fun h => by cases h⟩ ?_
            · simp [execOp, Act.eval, Act.put, go_sem, hS.1.2.1]
            refine wpAnyN_take false (i := 2) (v := .pointer (some ⟨wr.heap.size, 2, none⟩)) rfl (by kernel_rfl) (by kernel_rfl) (by kernel_rfl) (fun _ _ _ h => h) (.inl ⟨by rfl, fun W hS => ?_⟩) ⟨HS1.out, fun h => by cases h⟩ ?_
            · simp [execOp, Act.eval, Act.put, go_sem]
            refine wpAnyN_take false (i := 3) (v := .string part) rfl (by kernel_rfl) (by kernel_rfl) (by kernel_rfl) (fun _ _ _ h => h) (.inl ⟨by rfl, fun W hS => ?_⟩) ⟨HS1.out, fun h => by cases h⟩ ?_
            · simp [execOp, Act.eval, Act.put, go_sem, hS.1.2.2.1]
            refine wpAnyN_take false (i := 4) (v := .pointer (some ⟨wr.heap.size, 3, none⟩)) rfl (by kernel_rfl) (by kernel_rfl) (by kernel_rfl) (fun _ _ _ h => h) (.inl ⟨by rfl, fun W hS => ?_⟩) ⟨HS1.out, fun h => by cases h⟩ ?_
            · simp [execOp, Act.eval, Act.put, go_sem]
            refine wpAnyN_take false (i := 5) (v := .int .i64 pos) rfl (by kernel_rfl) (by kernel_rfl) (by kernel_rfl) (fun _ _ _ h => h) (.inl ⟨by rfl, fun W hS => ?_⟩) ⟨HS1.out, fun h => by cases h⟩ ?_
            · simp [execOp, Act.eval, Act.put, go_sem, hS.1.2.2.2]
            refine wpAnyN_take false (i := 7) (v := .pointer (some ⟨wr.heap.size, 1, none⟩)) rfl (by kernel_rfl) (by kernel_rfl) (by kernel_rfl) (fun _ _ _ h => h) (.inl ⟨by rfl, fun W hS => ?_⟩) ⟨HS1.out, fun h => by cases h⟩ ?_
            · simp [execOp, Act.eval, Act.put, go_sem]
            refine wpAnyN_take false (i := 8) (v := .int .i64 code) rfl (by kernel_rfl) (by kernel_rfl) (by kernel_rfl) (fun _ _ _ h => h) (.inl ⟨by rfl, fun W hS => ?_⟩) ⟨HS1.out, fun h => by cases h⟩ ?_
            · simp [execOp, Act.eval, Act.put, go_sem, hS.1.2.1]
            refine wpAnyN_take false (i := 9) (v := .pointer (some ⟨wr.heap.size, 2, none⟩)) rfl (by kernel_rfl) (by kernel_rfl) (by kernel_rfl) (fun _ _ _ h => h) (.inl ⟨by rfl, fun W hS => ?_⟩) ⟨HS1.out, fun h => by cases h⟩ ?_
            · simp [execOp, Act.eval, Act.put, go_sem]
            refine wpAnyN_take false (i := 10) (v := .string part) rfl (by kernel_rfl) (by kernel_rfl) (by kernel_rfl) (fun _ _ _ h => h) (.inl ⟨by rfl, fun W hS => ?_⟩) ⟨HS1.out, fun h => by cases h⟩ ?_
            · simp [execOp, Act.eval, Act.put, go_sem, hS.1.2.2.1]
            refine wpAnyN_take false (i := 11) (v := .pointer (some ⟨wr.heap.size, 3, none⟩)) rfl (by kernel_rfl) (by kernel_rfl) (by kernel_rfl) (fun _ _ _ h => h) (.inl ⟨by rfl, fun W hS => ?_⟩) ⟨HS1.out, fun h => by cases h⟩ ?_
            · simp [execOp, Act.eval, Act.put, go_sem]
            refine wpAnyN_take false (i := 12) (v := .int .i64 pos) rfl (by kernel_rfl) (by kernel_rfl) (by kernel_rfl) (fun _ _ _ h => h) (.inl ⟨by rfl, fun W hS => ?_⟩) ⟨HS1.out, fun h => by cases h⟩ ?_
            · simp [execOp, Act.eval, Act.put, go_sem, hS.1.2.2.2]
            refine wpAnyN_step (i := 6) (by kernel_rfl) rfl (by rfl) ?_
            intro K' hK
            simp only [Act.put]
            go_simp
            refine HC1.out.mono ?_
            rintro e w1 ⟨E1, is1, rfl, hb1, hch1, hr1⟩
            have HS3 := Lib.hid (HS1.out.later HAB.out hb1)
            have HG3 := Lib.hid (HG2.out.later hb1)
            have HB3 := Lib.hid (HB2.out.later hb1)
            have HAB3 := Lib.hid (Nat.lt_of_lt_of_le HAB.out hb1.size)
            have HX3 := Lib.hid (And.intro hb1 (And.intro hch1 hr1))
            clear hb1 hch1 hr1
            refine hK.out _ _ HS3.out (fun _ _ => ⟨HB3.out.cells.1, HB3.out.cells.2.1, HB3.out.cells.2.2.1⟩) ?_
            refine wpAnyN_take false (i := 14) (v := .pointer (some ⟨w.heap.size + 1, 0, none⟩)) rfl (by kernel_rfl) (by kernel_rfl) (by kernel_rfl) (fun _ _ _ h => h) (.inl ⟨by rfl, fun W hS => ?_⟩) ⟨HS3.out, fun h => by cases h⟩ ?_
            · simp [execOp, Act.eval, go_sem]
            have HC2 := Lib.hid (r_new (w.heap.size + 2) code part pos w1 (by have := HAB3.out; have := HBB.out; omega))
            refine wpAnyN_step (i := 13) (by kernel_rfl) rfl (by rfl) ?_
            intro K' hK
            simp only [Act.put]
            go_simp
            refine HC2.out.mono ?_
            rintro e w2 ⟨s2, a2, n2, c2, js2, rfl, hb2, hrow2, hnil2, hr2⟩
            have HS4 := Lib.hid (HS3.out.later HAB3.out hb2)
            have HB4 := Lib.hid (HB3.out.later hb2)
            have HX4 := Lib.hid (And.intro hb2 (And.intro hrow2 (And.intro hnil2 hr2)))
            clear hb2 hrow2 hnil2 hr2
            refine hK.out _ _ HS4.out (fun _ _ => ⟨HB4.out.cells.1, HB4.out.cells.2.1, HB4.out.cells.2.2.1⟩) ?_
            have hm := HX3.out.2.1.face.2.1
            have hst := fun W m => run_store Tryd.prog W ⟨w.heap.size + 1, 0, none⟩ E1 m HX3.out.2.1.face.2.2
            unfold Value.cells at hm
            obtain ⟨d0, d1, d2, f0, f1, f2⟩ := HB4.out.cells
            refine wpAnyN_step (i := 15) (by kernel_rfl) rfl (by rfl) ?_
            intro K' hK
            go_simp
            have HS5 := Lib.hid (HS4.out.set (w.heap.size + 1) 0 (Nat.ne_of_gt HBB.out) E1)
            refine hK.out _ _ HS5.out (fun h => absurd h (by decide)) ?_
            refine wpAnyN_take false (i := 16) (v := .pointer (some ⟨w.heap.size + 1, 1, none⟩)) rfl (by kernel_rfl) (by kernel_rfl) (by kernel_rfl) (fun _ _ _ h => h) (.inl ⟨by rfl, fun W hS => ?_⟩) ⟨HS5.out, fun h => by cases h⟩ ?_
            · simp [execOp, Act.eval, go_sem]
            refine wpAnyN_step (i := 17) (by kernel_rfl) rfl (by rfl) ?_
            intro K' hK
            go_simp
            refine hK.out _ _ ((HS5.out.set (w.heap.size + 1) 1 (Nat.ne_of_gt HBB.out) _).set (w.heap.size + 1) 2 (Nat.ne_of_gt HBB.out) _) (fun h => absurd h (by decide)) ?_
            refine wpAnyN_done (by kernel_rfl) ?_
            have HR := Lib.hid (round_rel hlt HBW.out HZ1.out HX3.out.1 HX3.out.2.1 HX3.out.2.2 HX4.out.1 HX4.out.2.1 HX4.out.2.2.1 HX4.out.2.2.2 HB4.out (ok_new hi1 hi2 hi3) (len_new))
            clear d0 d1 d2 f0 f1 f2 hst hm
            go_wp2_with fail
            go_roundg (m - (k + 1))
            case measure => have := HGK.out; omega
            case rel => exact HR.out
          · have hkb0 : (kind == 0) = false := by simpa using h0
            clear h0
            by_cases h1 : kind = 1
            · subst h1
              have HC1 := Lib.hid (e_wrap o E is part pos wc.drew HG2.out.chain HG2.out.eres HE2.out.e)
              go_wp2_with fail
              refine wp_region_N (S1 := fun W => ACells W wr.heap.size 1 code part pos) (S2 := fun W => BCells W (w.heap.size + 1) E s (.slice la ln lc)) (N := fun i => decide (i < 14)) (by kernel_rfl) ?_
              change wpAnyN _ _ _ _ _ _ _ 18 (Array.replicate 18 false) _ _
              refine wpAnyN_take false (i := 0) (v := .pointer (some ⟨w.heap.size + 1, 0, none⟩)) rfl (by kernel_rfl) (by kernel_rfl) (by kernel_rfl) (fun _ _ _ h => h) (.inl ⟨by rfl, fun W hS => ?_⟩) ⟨HS1.out, fun h => by cases h⟩ ?_
              · simp [execOp, Act.eval, go_sem]
              refine wpAnyN_take true (i := 1) (v := E) rfl (by kernel_rfl) (by kernel_rfl) (by kernel_rfl) (fun _ _ _ h => h) (.inl ⟨by rfl, fun W hS => ?_⟩) ⟨HS1.out, fun h => HS2.out⟩ ?_
              · simp [execOp, Act.eval, Act.put, go_sem, (hS.2 rfl).1]
              refine wpAnyN_take false (i := 2) (v := .pointer (some ⟨wr.heap.size, 2, none⟩)) rfl (by kernel_rfl) (by kernel_rfl) (by kernel_rfl) (fun _ _ _ h => h) (.inl ⟨by rfl, fun W hS => ?_⟩) ⟨HS1.out, fun h => by cases h⟩ ?_
              · simp [execOp, Act.eval, Act.put, go_sem]
              refine wpAnyN_take false (i := 3) (v := .string part) rfl (by kernel_rfl) (by kernel_rfl) (by kernel_rfl) (fun _ _ _ h => h) (.inl ⟨by rfl, fun W hS => ?_⟩) ⟨HS1.out, fun h => by cases h⟩ ?_
              · simp [execOp, Act.eval, Act.put, go_sem, hS.1.2.2.1]
              refine wpAnyN_take false (i := 4) (v := .pointer (some ⟨wr.heap.size, 3, none⟩)) rfl (by kernel_rfl) (by kernel_rfl) (by kernel_rfl) (fun _ _ _ h => h) (.inl ⟨by rfl, fun W hS => ?_⟩) ⟨HS1.out, fun h => by cases h⟩ ?_
              · simp [execOp, Act.eval, Act.put, go_sem]
              refine wpAnyN_take false (i := 5) (v := .int .i64 pos) rfl (by kernel_rfl) (by kernel_rfl) (by kernel_rfl) (fun _ _ _ h => h) (.inl ⟨by rfl, fun W hS => ?_⟩) ⟨HS1.out, fun h => by cases h⟩ ?_
              · simp [execOp, Act.eval, Act.put, go_sem, hS.1.2.2.2]
              refine wpAnyN_take false (i := 7) (v := .pointer (some ⟨w.heap.size + 1, 1, none⟩)) rfl (by kernel_rfl) (by kernel_rfl) (by kernel_rfl) (fun _ _ _ h => h) (.inl ⟨by rfl, fun W hS => ?_⟩) ⟨HS1.out, fun h => by cases h⟩ ?_
              · simp [execOp, Act.eval, Act.put, go_sem]
              refine wpAnyN_take true (i := 8) (v := .agg #[.bool s, .slice la ln lc]) rfl (by kernel_rfl) (by kernel_rfl) (by kernel_rfl) (fun _ _ _ h => h) (.inl ⟨by rfl, fun W hS => ?_⟩) ⟨HS1.out, fun h => HS2.out⟩ ?_
              · simp [execOp, Act.eval, Act.put, go_sem, (hS.2 rfl).2.1, (hS.2 rfl).2.2]
              refine wpAnyN_take false (i := 9) (v := .pointer (some ⟨wr.heap.size, 2, none⟩)) rfl (by kernel_rfl) (by kernel_rfl) (by kernel_rfl) (fun _ _ _ h => h) (.inl ⟨by rfl, fun W hS => ?_⟩) ⟨HS1.out, fun h => by cases h⟩ ?_
              · simp [execOp, Act.eval, Act.put, go_sem]
              refine wpAnyN_take false (i := 10) (v := .string part) rfl (by kernel_rfl) (by kernel_rfl) (by kernel_rfl) (fun _ _ _ h => h) (.inl ⟨by rfl, fun W hS => ?_⟩) ⟨HS1.out, fun h => by cases h⟩ ?_
              · simp [execOp, Act.eval, Act.put, go_sem, hS.1.2.2.1]
              refine wpAnyN_take false (i := 11) (v := .pointer (some ⟨wr.heap.size, 3, none⟩)) rfl (by kernel_rfl) (by kernel_rfl) (by kernel_rfl) (fun _ _ _ h => h) (.inl ⟨by rfl, fun W hS => ?_⟩) ⟨HS1.out, fun h => by cases h⟩ ?_
              · simp [execOp, Act.eval, Act.put, go_sem]
              refine wpAnyN_take false (i := 12) (v := .int .i64 pos) rfl (by kernel_rfl) (by kernel_rfl) (by kernel_rfl) (fun _ _ _ h => h) (.inl ⟨by rfl, fun W hS => ?_⟩) ⟨HS1.out, fun h => by cases h⟩ ?_
              · simp [execOp, Act.eval, Act.put, go_sem, hS.1.2.2.2]
              refine wpAnyN_step (i := 6) (by kernel_rfl) rfl (by rfl) ?_
              intro K' hK
              simp only [Act.put]
              go_simp
              refine HC1.out.mono ?_
              rintro e w1 ⟨E1, is1, rfl, hb1, hch1, hr1⟩
              have HS3 := Lib.hid (HS1.out.later HAB.out hb1)
              have HG3 := Lib.hid (HG2.out.later hb1)
              have HB3 := Lib.hid (HB2.out.later hb1)
              have HAB3 := Lib.hid (Nat.lt_of_lt_of_le HAB.out hb1.size)
              have HX3 := Lib.hid (And.intro hb1 (And.intro hch1 hr1))
              clear hb1 hch1 hr1
              refine hK.out _ _ HS3.out (fun _ _ => ⟨HB3.out.cells.1, HB3.out.cells.2.1, HB3.out.cells.2.2.1⟩) ?_
              refine wpAnyN_take false (i := 14) (v := .pointer (some ⟨w.heap.size + 1, 0, none⟩)) rfl (by kernel_rfl) (by kernel_rfl) (by kernel_rfl) (fun _ _ _ h => h) (.inl ⟨by rfl, fun W hS => ?_⟩) ⟨HS3.out, fun h => by cases h⟩ ?_
              · simp [execOp, Act.eval, go_sem]
              have HC2 := Lib.hid (r_wrap (w.heap.size + 2) o s la ln lc js part pos w1 HG3.out.row HG3.out.nils HG3.out.rres (by have := HG3.out.rres.len HG3.out.len; omega) (by have := HAB3.out; have := HBB.out; omega) (head_code HG3.out.ok))
              refine wpAnyN_step (i := 13) (by kernel_rfl) rfl (by rfl) ?_
              intro K' hK
              simp only [Act.put]
              go_simp
              refine HC2.out.mono ?_
              rintro e w2 ⟨s2, a2, n2, c2, js2, rfl, hb2, hrow2, hnil2, hr2⟩
              have HS4 := Lib.hid (HS3.out.later HAB3.out hb2)
              have HB4 := Lib.hid (HB3.out.later hb2)
              have HX4 := Lib.hid (And.intro hb2 (And.intro hrow2 (And.intro hnil2 hr2)))
              clear hb2 hrow2 hnil2 hr2
              refine hK.out _ _ HS4.out (fun _ _ => ⟨HB4.out.cells.1, HB4.out.cells.2.1, HB4.out.cells.2.2.1⟩) ?_
              have hm := HX3.out.2.1.face.2.1
              have hst := fun W m => run_store Tryd.prog W ⟨w.heap.size + 1, 0, none⟩ E1 m HX3.out.2.1.face.2.2
              unfold Value.cells at hm
              obtain ⟨d0, d1, d2, f0, f1, f2⟩ := HB4.out.cells
              refine wpAnyN_step (i := 15) (by kernel_rfl) rfl (by rfl) ?_
              intro K' hK
              go_simp
              have HS5 := Lib.hid (HS4.out.set (w.heap.size + 1) 0 (Nat.ne_of_gt HBB.out) E1)
              refine hK.out _ _ HS5.out (fun h => absurd h (by decide)) ?_
              refine wpAnyN_take false (i := 16) (v := .pointer (some ⟨w.heap.size + 1, 1, none⟩)) rfl (by kernel_rfl) (by kernel_rfl) (by kernel_rfl) (fun _ _ _ h => h) (.inl ⟨by rfl, fun W hS => ?_⟩) ⟨HS5.out, fun h => by cases h⟩ ?_
              · simp [execOp, Act.eval, go_sem]
              refine wpAnyN_step (i := 17) (by kernel_rfl) rfl (by rfl) ?_
              intro K' hK
              go_simp
              refine hK.out _ _ ((HS5.out.set (w.heap.size + 1) 1 (Nat.ne_of_gt HBB.out) _).set (w.heap.size + 1) 2 (Nat.ne_of_gt HBB.out) _) (fun h => absurd h (by decide)) ?_
              refine wpAnyN_done (by kernel_rfl) ?_
              have HR := Lib.hid (round_rel hlt HBW.out HZ1.out HX3.out.1 HX3.out.2.1 HX3.out.2.2 HX4.out.1 HX4.out.2.1 HX4.out.2.2.1 HX4.out.2.2.2 HB4.out (ok_wrap HG2.out.ok hi2 hi3) (len_wrap HG2.out.len))
              clear d0 d1 d2 f0 f1 f2 hst hm
              go_wp2_with fail
              go_roundg (m - (k + 1))
              case measure => have := HGK.out; omega
              case rel => exact HR.out
            · have hkb1 : (kind == 1) = false := by simpa using h1
              clear h1
              by_cases h2 : kind = 2
              · subst h2
                have HC1 := Lib.hid (e_turn code o E is part pos wc.drew HG2.out.chain HG2.out.eres HE2.out.e)
                go_wp2_with fail
                refine wp_region_N (S1 := fun W => ACells W wr.heap.size 2 code part pos) (S2 := fun W => BCells W (w.heap.size + 1) E s (.slice la ln lc)) (N := fun i => decide (i < 18)) (by kernel_rfl) ?_
                change wpAnyN _ _ _ _ _ _ _ 22 (Array.replicate 22 false) _ _
                refine wpAnyN_take false (i := 0) (v := .pointer (some ⟨w.heap.size + 1, 0, none⟩)) rfl (by kernel_rfl) (by kernel_rfl) (by kernel_rfl) (fun _ _ _ h => h) (.inl ⟨by rfl, fun W hS => ?_⟩) ⟨HS1.out, fun h => by cases h⟩ ?_
                · simp [execOp, Act.eval, go_sem]
                refine wpAnyN_take true (i := 1) (v := E) rfl (by kernel_rfl) (by kernel_rfl) (by kernel_rfl) (fun _ _ _ h => h) (.inl ⟨by rfl, fun W hS => ?_⟩) ⟨HS1.out, fun h => HS2.out⟩ ?_
                · simp [execOp, Act.eval, Act.put, go_sem, (hS.2 rfl).1]
                refine wpAnyN_take false (i := 2) (v := .pointer (some ⟨wr.heap.size, 1, none⟩)) rfl (by kernel_rfl) (by kernel_rfl) (by kernel_rfl) (fun _ _ _ h => h) (.inl ⟨by rfl, fun W hS => ?_⟩) ⟨HS1.out, fun h => by cases h⟩ ?_
                · simp [execOp, Act.eval, Act.put, go_sem]
                refine wpAnyN_take false (i := 3) (v := .int .i64 code) rfl (by kernel_rfl) (by kernel_rfl) (by kernel_rfl) (fun _ _ _ h => h) (.inl ⟨by rfl, fun W hS => ?_⟩) ⟨HS1.out, fun h => by cases h⟩ ?_
                · simp [execOp, Act.eval, Act.put, go_sem, hS.1.2.1]
                refine wpAnyN_take false (i := 4) (v := .pointer (some ⟨wr.heap.size, 2, none⟩)) rfl (by kernel_rfl) (by kernel_rfl) (by kernel_rfl) (fun _ _ _ h => h) (.inl ⟨by rfl, fun W hS => ?_⟩) ⟨HS1.out, fun h => by cases h⟩ ?_
                · simp [execOp, Act.eval, Act.put, go_sem]
                refine wpAnyN_take false (i := 5) (v := .string part) rfl (by kernel_rfl) (by kernel_rfl) (by kernel_rfl) (fun _ _ _ h => h) (.inl ⟨by rfl, fun W hS => ?_⟩) ⟨HS1.out, fun h => by cases h⟩ ?_
                · simp [execOp, Act.eval, Act.put, go_sem, hS.1.2.2.1]
                refine wpAnyN_take false (i := 6) (v := .pointer (some ⟨wr.heap.size, 3, none⟩)) rfl (by kernel_rfl) (by kernel_rfl) (by kernel_rfl) (fun _ _ _ h => h) (.inl ⟨by rfl, fun W hS => ?_⟩) ⟨HS1.out, fun h => by cases h⟩ ?_
                · simp [execOp, Act.eval, Act.put, go_sem]
                refine wpAnyN_take false (i := 7) (v := .int .i64 pos) rfl (by kernel_rfl) (by kernel_rfl) (by kernel_rfl) (fun _ _ _ h => h) (.inl ⟨by rfl, fun W hS => ?_⟩) ⟨HS1.out, fun h => by cases h⟩ ?_
                · simp [execOp, Act.eval, Act.put, go_sem, hS.1.2.2.2]
                refine wpAnyN_take false (i := 9) (v := .pointer (some ⟨w.heap.size + 1, 1, none⟩)) rfl (by kernel_rfl) (by kernel_rfl) (by kernel_rfl) (fun _ _ _ h => h) (.inl ⟨by rfl, fun W hS => ?_⟩) ⟨HS1.out, fun h => by cases h⟩ ?_
                · simp [execOp, Act.eval, Act.put, go_sem]
                refine wpAnyN_take true (i := 10) (v := .agg #[.bool s, .slice la ln lc]) rfl (by kernel_rfl) (by kernel_rfl) (by kernel_rfl) (fun _ _ _ h => h) (.inl ⟨by rfl, fun W hS => ?_⟩) ⟨HS1.out, fun h => HS2.out⟩ ?_
                · simp [execOp, Act.eval, Act.put, go_sem, (hS.2 rfl).2.1, (hS.2 rfl).2.2]
                refine wpAnyN_take false (i := 11) (v := .pointer (some ⟨wr.heap.size, 1, none⟩)) rfl (by kernel_rfl) (by kernel_rfl) (by kernel_rfl) (fun _ _ _ h => h) (.inl ⟨by rfl, fun W hS => ?_⟩) ⟨HS1.out, fun h => by cases h⟩ ?_
                · simp [execOp, Act.eval, Act.put, go_sem]
                refine wpAnyN_take false (i := 12) (v := .int .i64 code) rfl (by kernel_rfl) (by kernel_rfl) (by kernel_rfl) (fun _ _ _ h => h) (.inl ⟨by rfl, fun W hS => ?_⟩) ⟨HS1.out, fun h => by cases h⟩ ?_
                · simp [execOp, Act.eval, Act.put, go_sem, hS.1.2.1]
                refine wpAnyN_take false (i := 13) (v := .pointer (some ⟨wr.heap.size, 2, none⟩)) rfl (by kernel_rfl) (by kernel_rfl) (by kernel_rfl) (fun _ _ _ h => h) (.inl ⟨by rfl, fun W hS => ?_⟩) ⟨HS1.out, fun h => by cases h⟩ ?_
                · simp [execOp, Act.eval, Act.put, go_sem]
                refine wpAnyN_take false (i := 14) (v := .string part) rfl (by kernel_rfl) (by kernel_rfl) (by kernel_rfl) (fun _ _ _ h => h) (.inl ⟨by rfl, fun W hS => ?_⟩) ⟨HS1.out, fun h => by cases h⟩ ?_
                · simp [execOp, Act.eval, Act.put, go_sem, hS.1.2.2.1]
                refine wpAnyN_take false (i := 15) (v := .pointer (some ⟨wr.heap.size, 3, none⟩)) rfl (by kernel_rfl) (by kernel_rfl) (by kernel_rfl) (fun _ _ _ h => h) (.inl ⟨by rfl, fun W hS => ?_⟩) ⟨HS1.out, fun h => by cases h⟩ ?_
                · simp [execOp, Act.eval, Act.put, go_sem]
                refine wpAnyN_take false (i := 16) (v := .int .i64 pos) rfl (by kernel_rfl) (by kernel_rfl) (by kernel_rfl) (fun _ _ _ h => h) (.inl ⟨by rfl, fun W hS => ?_⟩) ⟨HS1.out, fun h => by cases h⟩ ?_
                · simp [execOp, Act.eval, Act.put, go_sem, hS.1.2.2.2]
                refine wpAnyN_step (i := 8) (by kernel_rfl) rfl (by rfl) ?_
                intro K' hK
                simp only [Act.put]
                go_simp
                refine HC1.out.mono ?_
                rintro e w1 ⟨E1, is1, rfl, hb1, hch1, hr1⟩
                have HS3 := Lib.hid (HS1.out.later HAB.out hb1)
                have HG3 := Lib.hid (HG2.out.later hb1)
                have HB3 := Lib.hid (HB2.out.later hb1)
                have HAB3 := Lib.hid (Nat.lt_of_lt_of_le HAB.out hb1.size)
                have HX3 := Lib.hid (And.intro hb1 (And.intro hch1 hr1))
                clear hb1 hch1 hr1
                refine hK.out _ _ HS3.out (fun _ _ => ⟨HB3.out.cells.1, HB3.out.cells.2.1, HB3.out.cells.2.2.1⟩) ?_
                refine wpAnyN_take false (i := 18) (v := .pointer (some ⟨w.heap.size + 1, 0, none⟩)) rfl (by kernel_rfl) (by kernel_rfl) (by kernel_rfl) (fun _ _ _ h => h) (.inl ⟨by rfl, fun W hS => ?_⟩) ⟨HS3.out, fun h => by cases h⟩ ?_
                · simp [execOp, Act.eval, go_sem]
                have HC2 := Lib.hid (r_turn (w.heap.size + 2) code o s la ln lc js part pos w1 HG3.out.row HG3.out.nils HG3.out.rres (by have := HG3.out.rres.len HG3.out.len; omega) (by have := HAB3.out; have := HBB.out; omega) (head_code HG3.out.ok))
                refine wpAnyN_step (i := 17) (by kernel_rfl) rfl (by rfl) ?_
                intro K' hK
                simp only [Act.put]
                go_simp
                refine HC2.out.mono ?_
                rintro e w2 ⟨s2, a2, n2, c2, js2, rfl, hb2, hrow2, hnil2, hr2⟩
                have HS4 := Lib.hid (HS3.out.later HAB3.out hb2)
                have HB4 := Lib.hid (HB3.out.later hb2)
                have HX4 := Lib.hid (And.intro hb2 (And.intro hrow2 (And.intro hnil2 hr2)))
                clear hb2 hrow2 hnil2 hr2
                refine hK.out _ _ HS4.out (fun _ _ => ⟨HB4.out.cells.1, HB4.out.cells.2.1, HB4.out.cells.2.2.1⟩) ?_
                have hm := HX3.out.2.1.face.2.1
                have hst := fun W m => run_store Tryd.prog W ⟨w.heap.size + 1, 0, none⟩ E1 m HX3.out.2.1.face.2.2
                unfold Value.cells at hm
                obtain ⟨d0, d1, d2, f0, f1, f2⟩ := HB4.out.cells
                refine wpAnyN_step (i := 19) (by kernel_rfl) rfl (by rfl) ?_
                intro K' hK
                go_simp
                have HS5 := Lib.hid (HS4.out.set (w.heap.size + 1) 0 (Nat.ne_of_gt HBB.out) E1)
                refine hK.out _ _ HS5.out (fun h => absurd h (by decide)) ?_
                refine wpAnyN_take false (i := 20) (v := .pointer (some ⟨w.heap.size + 1, 1, none⟩)) rfl (by kernel_rfl) (by kernel_rfl) (by kernel_rfl) (fun _ _ _ h => h) (.inl ⟨by rfl, fun W hS => ?_⟩) ⟨HS5.out, fun h => by cases h⟩ ?_
                · simp [execOp, Act.eval, go_sem]
                refine wpAnyN_step (i := 21) (by kernel_rfl) rfl (by rfl) ?_
                intro K' hK
                go_simp
                refine hK.out _ _ ((HS5.out.set (w.heap.size + 1) 1 (Nat.ne_of_gt HBB.out) _).set (w.heap.size + 1) 2 (Nat.ne_of_gt HBB.out) _) (fun h => absurd h (by decide)) ?_
                refine wpAnyN_done (by kernel_rfl) ?_
                have HR := Lib.hid (round_rel hlt HBW.out HZ1.out HX3.out.1 HX3.out.2.1 HX3.out.2.2 HX4.out.1 HX4.out.2.1 HX4.out.2.2.1 HX4.out.2.2.2 HB4.out (ok_turn HG2.out.ok hi1 hi2 hi3) (len_turn HG2.out.len))
                clear d0 d1 d2 f0 f1 f2 hst hm
                go_wp2_with fail
                go_roundg (m - (k + 1))
                case measure => have := HGK.out; omega
                case rel => exact HR.out
              · have hkb2 : (kind == 2) = false := by simpa using h2
                clear h2
                obtain ⟨d0, d1, d2, f0, f1, f2⟩ := (show BothAt wc (w.heap.size + 1) E s (.slice la ln lc) from HB2.out).cells
                have hp3 := HS1.out.2.2.2
                have hp3' : wc.cell? ⟨wr.heap.size, 3, none⟩ = some (.int .i64 pos) := hp3
                clear hp3
                by_cases h3 : kind = 3
                · subst h3
                  have HR := Lib.hid (round_rel0 hlt HBW.out HZ1.out (good_alien (base := w.heap.size + 2) (k := k + 1) pos) (show BothAt wc (w.heap.size + 1) E s (.slice la ln lc) from HB2.out))
                  go_wp2_with fail
                  go_roundg (m - (k + 1))
                  case measure => have := HGK.out; omega
                  case rel => exact HR.out
                · have hkb3 : (kind == 3) = false := by simpa using h3
                  clear h3
                  by_cases h4 : kind = 4
                  · subst h4
                    rcases HG2.out.chain.face.1 with rfl | ⟨T, x, rfl⟩
                    · have HR := Lib.hid (round_same hlt HBW.out HZ1.out (HGc.out) (show BothAt wc (w.heap.size + 1) .nilIface s (.slice la ln lc) from HB2.out))
                      go_wp2_with fail
                      go_roundg (m - (k + 1))
                      case measure => have := HGK.out; omega
                      case rel => exact HR.out
                    · have HR := Lib.hid (round_rel1 hlt HBW.out HZ1.out (good_around HGc.out) (show BothAt wc (w.heap.size + 1) (.iface T x) s (.slice la ln lc) from HB2.out))
                      go_wp2_with fail
                      go_roundg (m - (k + 1))
                      case measure => have := HGK.out; omega
                      case rel => exact HR.out
                  · have hkb4 : (kind == 4) = false := by simpa using h4
                    clear h4
                    have HR := Lib.hid (round_same hlt HBW.out HZ1.out (HGc.out) (show BothAt wc (w.heap.size + 1) E s (.slice la ln lc) from HB2.out))
                    go_wp2_with fail
                    go_roundg (m - (k + 1))
                    case measure => have := HGK.out; omega
                    case rel => exact HR.out
      · obtain rfl : k = m := by omega
        have HB := Lib.hid hbb
        have HZ := Lib.hid hrb
        have HR := Lib.hid (show ∃ o is js, Good (w.heap.size + 2) wr o E s lv is js 40 ∧ Below w.heap.size w wr from ⟨o, is, js, ⟨hG.chain, hG.eres, hG.row, hG.nils, hG.rres, hG.ok, fun ks e => by have := hG.len ks e; have := HM.out; omega⟩, hbr⟩)
        have hmx : (k < acts.length ∧ k = 40) ∨ (k = acts.length ∧ k ≤ 40) := by have := HM.out; omega
        obtain ⟨la, ln, lc, rfl⟩ := hG.row.slice
        obtain ⟨d0, d1, d2, f0, f1, f2⟩ := hbb.cells
        obtain ⟨z0, z1, z2, y0, y1, y2⟩ := (show BothAt wr w.heap.size .nilIface false (.slice none 0 0) from hrb).cells
        rcases hG.chain.face.1 with rfl | ⟨T, x, rfl⟩
        · clear hbb hrb hG hbr hgk
          rcases hmx with ⟨hx1, rfl⟩ | ⟨rfl, hx2⟩
          · have hx3 : (40 : Int) < acts.length := by omega
            go_wp2_with fail
            refine bodyPost_ret (v := .agg #[.nilIface, .bool s, .slice la ln lc]) (by simp [results, Tryd.results7, go_sem, z0, z1, z2]) rfl ?_
            obtain ⟨o, is, js, hg, hb⟩ := HR.out
            exact behind_end HZ.out hg hb
          · go_wp2_with fail
            refine bodyPost_ret (v := .agg #[.nilIface, .bool s, .slice la ln lc]) (by simp [results, Tryd.results7, go_sem, z0, z1, z2]) rfl ?_
            obtain ⟨o, is, js, hg, hb⟩ := HR.out
            exact behind_end HZ.out hg hb
        · clear hbb hrb hG hbr hgk
          rcases hmx with ⟨hx1, rfl⟩ | ⟨rfl, hx2⟩
          · have hx3 : (40 : Int) < acts.length := by omega
            go_wp2_with fail
            refine bodyPost_ret (v := .agg #[.iface T x, .bool s, .slice la ln lc]) (by simp [results, Tryd.results7, go_sem, z0, z1, z2]) rfl ?_
            obtain ⟨o, is, js, hg, hb⟩ := HR.out
            exact behind_end HZ.out hg hb
          · go_wp2_with fail
            refine bodyPost_ret (v := .agg #[.iface T x, .bool s, .slice la ln lc]) (by simp [results, Tryd.results7, go_sem, z0, z1, z2]) rfl ?_
            obtain ⟨o, is, js, hg, hb⟩ := HR.out
            exact behind_end HZ.out hg hb
end Go.Proofs.YtciebpijdgdcjaaDoor
