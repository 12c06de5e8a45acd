/-
  The law FaultInner: it returns true for every code, part, place and steps, and writes nothing that was there.
  Conditions: start-up's two variables are as laid; the numbers are ints.
-/
import Derived.Test.YtciebpijdgdcjaaDoorAwake
import Derived.StillTailTactics
import Derived.WalkLawsBesides
import Derived.Deep.LoopGhost
namespace Go.Proofs.YtciebpijdgdcjaaDoor
open Go.RowKit Go.Extern.Stop Go.Stop Go.Extern

/-- A step. -/
structure ActV where
  kind : Int
  code : Int
  part : ByteArray
  pos : Int

/-- The slice value 'sv' holds the steps. -/
def ActsAt (w : World) (sv : Value) (acts : List ActV) : Prop :=
  (acts = [] ∧ ∃ a cap, sv = .slice a 0 cap) ∨ ∃ b off cap, sv = .slice (some ⟨b, off, none⟩) acts.length cap ∧ b < w.heap.size ∧ acts.length ≤ 9223372036854775807 ∧
    ∀ j (h : j < acts.length), w.cell? ⟨b, off + j * 4, none⟩ = some (.int .i64 (acts[j]'h).kind) ∧ w.cell? ⟨b, off + j * 4 + 1, none⟩ = some (.int .i64 (acts[j]'h).code) ∧
      w.cell? ⟨b, off + j * 4 + 2, none⟩ = some (.string (acts[j]'h).part) ∧ w.cell? ⟨b, off + j * 4 + 3, none⟩ = some (.int .i64 (acts[j]'h).pos)

/-- What Turn comes to, whatever the code. -/
def MadeAny (part : ByteArray) (pos : Int) (is : List Item) (w : World) (e : Ending) (w' : World) : Prop := ∃ c, MadePost c part pos is w e w'

theorem turn_any (c : Int) (v : Value) (is : List Item) (part : ByteArray) (pos : Int) (w : World) (hch : Chain w.heap.size w v is) (hv : v ≠ .nilIface) (hg : EType w) :
    Calls Tryd.prog 19 #[v, .int .i64 c, .string part, .int .i64 pos] w (MadeAny part pos is w) := by
  by_cases hc : c = 0
  · subst hc
    exact (turn_zero v is part pos w hch hv hg).mono fun e w' h => ⟨_, h⟩
  · exact (turn_some c v is part pos w hch hv (by simpa using hc)).mono fun e w' h => ⟨_, h⟩

def InnerRel (w : World) (m : Nat) (key : Int × ByteArray × Int) (g : Nat) (v : Value) (x : Value) (wr : World) : Prop :=
  ∃ (k : Nat) (is : List Item), k ≤ m ∧ g = m - k ∧ x = .int .i64 k ∧ v ≠ .nilIface ∧ Chain wr.heap.size wr v is ∧ is.length = k + 1 ∧ (is.getLast?).map Item.key = some key ∧ Below w.heap.size w wr

theorem getLast_cons {i : Item} {is : List Item} {key : Int × ByteArray × Int} (h : (is.getLast?).map Item.key = some key) : ((i :: is).getLast?).map Item.key = some key := by
  cases is with
  | nil => cases h
  | cons j is => rw [List.getLast?_cons_cons]; exact h

theorem last_item {is : List Item} {k : Nat} {code pos : Int} {part : ByteArray} (hn : is.length = k + 1) (hl : (is.getLast?).map Item.key = some (code, part, pos)) :
    ∃ (h : k < is.length), (is[k]'h).code = code ∧ (is[k]'h).part = part ∧ (is[k]'h).pos = pos := by
  refine ⟨by omega, ?_⟩
  rw [List.getLast?_eq_getElem?, hn, Nat.add_sub_cancel, List.getElem?_eq_getElem (by omega)] at hl
  simp only [Option.map_some, Option.some.injEq, Item.key, Prod.mk.injEq] at hl
  exact hl

theorem last_cells {w : World} {base : Nat} {v : Value} {is : List Item} {k : Nat} {code pos : Int} {part : ByteArray} (h : w.ownsRow base 39 3 v is.length (linksCells is)) (hn : is.length = k + 1) (hl : (is.getLast?).map Item.key = some (code, part, pos)) :
    ∃ g cap, v = .slice (some ⟨g, 0, none⟩) (k + 1) cap ∧ w.cell? ⟨g, k * 3, none⟩ = some (.int .i64 code) ∧ w.cell? ⟨g, k * 3 + 1, none⟩ = some (.string part) ∧ w.cell? ⟨g, k * 3 + 2, none⟩ = some (.int .i64 pos) := by
  obtain ⟨hk, e1, e2, e3⟩ := last_item hn hl
  rcases linksAt_of_own h with ⟨_, h2⟩ | ⟨g, cap, h1, _, hc⟩
  · rw [h2] at hn; cases hn
  · obtain ⟨a, b, c⟩ := hc k hk
    rw [e1] at a
    rw [e2] at b
    rw [e3] at c
    exact ⟨g, cap, by rw [h1, hn], a, b, c⟩

/-- Behind the links: the calls that are left. -/
def InnerTail (w w2 : World) (v : Value) (code : Int) : Prop := ∀ W, Below w2.heap.size w2 W →
  Calls Tryd.prog 14 #[v, .int .i64 code] W (Ans true W) ∧ Env W ∧ Below w.heap.size w W

theorem inner_tail {w wr w2 : World} {v : Value} {is : List Item} {k : Nat} {code pos : Int} {part : ByteArray} (hc : (code == 0) = false) (hbr : Below w.heap.size w wr) (hch : Chain wr.heap.size wr v is) (he : Env w) (hb : Below wr.heap.size wr w2)
    (hn : is.length = k + 1) (hl : (is.getLast?).map Item.key = some (code, part, pos)) (hk : k ≤ 40 := by omega) : InnerTail w w2 v code := by
  intro W hW
  have h1 : Below wr.heap.size wr W := hb.trans (hW.mono hb.size)
  have h2 : Below w.heap.size w W := hbr.trans (h1.mono hbr.size)
  have heW := he.later h2
  refine ⟨?_, heW, h2⟩
  have e : hasCode code is = true := by
    obtain ⟨hk', e1, _, _⟩ := last_item hn hl
    refine List.any_eq_true.2 ⟨is[k], List.getElem_mem hk', ?_⟩
    rw [e1]
    simp
  have := has_code v is code W (hch.later h1) heW.e (by omega) hc
  rwa [e] at this

set_option maxRecDepth 100000 in
set_option maxHeartbeats 4000000 in
theorem inner_loop (code pos : Int) (part : ByteArray) (sv : Value) (acts : List ActV) (w : World) (he : Env w) (hc : (code == 0) = false) (hl : part.size ≤ 100) (hs : ActsAt w sv acts) :
    Calls Tryd.prog 5 #[.int .i64 code, .string part, .int .i64 pos, sv] w (Ans true w) := by
  rcases hs with ⟨rfl, a, cap, rfl⟩ | ⟨b, off, cap, rfl, hb, hmax, hcells⟩
  · have HN := Lib.hid (new_some code part pos w hc)
    have HE := Lib.hid he
    clear he
    go_enter Tryd.func5, Tryd.ntmps5
    go_wp2_with fail
    refine HN.out.mono ?_
    rintro e wr ⟨b1, rfl, hbr, hch⟩
    have HL := Lib.hid (links_any _ _ wr hch (HE.out.later hbr).e (by simp))
    have HLN := Lib.hid (show ([⟨b1, code, part, pos⟩] : List Item).length = 0 + 1 from rfl)
    have HLS := Lib.hid (show (([⟨b1, code, part, pos⟩] : List Item).getLast?).map Item.key = some (code, part, pos) from rfl)
    have HCH := Lib.hid hch
    have HBR := Lib.hid hbr
    clear hch hbr
    go_wp2_with fail
    refine wp_loop_rounds 1 ?_
    rw [rounds_succ]
    go_wp2_with fail
    refine HL.out.mono ?_
    rintro e w2 ⟨lv, rfl, hb2, hown⟩
    obtain ⟨g, lcap, hlv, c0, c1, c2⟩ := last_cells hown HLN.out HLS.out
    subst hlv
    simp only [Nat.reduceMul, Nat.reduceAdd] at c0 c1 c2
    have HT := Lib.hid (inner_tail hc HBR.out HCH.out HE.out hb2 HLN.out HLS.out)
    have hb3 : Below w2.heap.size w2 (w2.alloc (.cells #[.int .i64 code, .string part, .int .i64 pos] 39)) := (Below.refl _ _).alloc (Nat.le_refl _) _
    have HH := Lib.hid (HT.out _ hb3).1
    have HB3 := Lib.hid hb3
    clear hown hb3
    go_wp2_with fail
    refine HH.out.mono ?_
    rintro e w4 ⟨rfl, hb4⟩
    have h4 := HT.out w4 (HB3.out.trans (hb4.mono HB3.out.size))
    have HA := Lib.hid (awake_any w4 h4.2.1)
    have HB4 := Lib.hid h4.2.2
    clear h4 hb4
    go_wp2_with fail
    refine HA.out.mono ?_
    rintro e w5 ⟨rfl, hb5⟩
    go_wp2
    go_ret
    exact ⟨rfl, HB4.out.trans (hb5.mono HB4.out.size)⟩
  · have HN := Lib.hid (new_some code part pos w hc)
    have HE := Lib.hid he
    have HC := Lib.hid hcells
    obtain ⟨m, hm⟩ : ∃ m, m = min acts.length 40 := ⟨_, rfl⟩
    have HM := Lib.hid hm
    clear he hcells hm
    go_enter Tryd.func5, Tryd.ntmps5
    go_wp2_with fail
    refine HN.out.mono ?_
    rintro e w1 ⟨b1, rfl, hb1, hch1⟩
    have H0 : InnerRel w m (code, part, pos) m (.iface 54 (.pointer (some ⟨b1, 0, none⟩))) (.int .i64 0) w1 := ⟨0, _, Nat.zero_le _, rfl, rfl, by simp, hch1, rfl, rfl, hb1⟩
    have HH0 := Lib.hid H0
    clear H0 hb1 hch1
    go_wp2_with fail
    go_loopg [9, 10] m (fun g v x wr => InnerRel w m (code, part, pos) g v x wr)
    case atStart => exact HH0.out
    case round =>
      obtain ⟨k, is, hk, hgk, rfl, hv, hch, hlen, hlast, hbr⟩ := hrel
      by_cases hlt : k < m
      · have hk1 : k < acts.length := by have := HM.out; omega
        have hk2 : k < 40 := by have := HM.out; omega
        obtain ⟨q0, q1, q2, q3⟩ := HC.out k hk1
        have r0 := (hbr.cell (p := ⟨b, off + k * 4, none⟩) hb).trans q0
        have r1 := (hbr.cell (p := ⟨b, off + k * 4 + 1, none⟩) hb).trans q1
        have r2 := (hbr.cell (p := ⟨b, off + k * 4 + 2, none⟩) hb).trans q2
        have r3 := (hbr.cell (p := ⟨b, off + k * 4 + 3, none⟩) hb).trans q3
        have HCH := Lib.hid hch
        have HV := Lib.hid hv
        have HLN := Lib.hid hlen
        have HLS := Lib.hid hlast
        have HBR := Lib.hid hbr
        have HGK := Lib.hid hgk
        by_cases hkd : acts[k].kind = 1
        · have hbd : Below wr.heap.size wr wr.drew := (Below.refl _ _).drew
          have HW := Lib.hid (wrap_some _ is acts[k].part acts[k].pos wr.drew (hch.kept (Nat.le_refl _) hbd) hv ((HE.out.later hbr).later hbd).e)
          have HBD := Lib.hid hbd
          have hkb : (acts[k].kind == 1) = true := by simp [hkd]
          clear q0 q1 q2 q3 hch hv hlen hlast hbr hgk hkd hbd
          go_wp2_with fail
          go_still_tail 11, (by kernel_rfl)
          go_wp2_with (go_at_call 18; refine HW.out.mono ?_; rintro e w2 ⟨b2, rfl, hb2, hch2⟩)
          go_roundg (m - (k + 1))
          case measure => have := HGK.out; omega
          case rel => exact ⟨k + 1, _, by omega, rfl, by go_num, by simp, hch2, by rw [List.length_cons, HLN.out], getLast_cons HLS.out, HBR.out.trans ((HBD.out.trans (hb2.mono HBD.out.size)).mono HBR.out.size)⟩
        · have hbd : Below wr.heap.size wr wr.drew := (Below.refl _ _).drew
          have HW := Lib.hid (turn_any acts[k].code _ is acts[k].part acts[k].pos wr.drew (hch.kept (Nat.le_refl _) hbd) hv ((HE.out.later hbr).later hbd).e)
          have HBD := Lib.hid hbd
          have hkb : (acts[k].kind == 1) = false := by simp [hkd]
          clear q0 q1 q2 q3 hch hv hlen hlast hbr hgk hkd hbd
          go_wp2_with fail
          go_still_tail 16, (by kernel_rfl)
          go_wp2_with (go_at_call 19; refine HW.out.mono ?_; rintro e w2 ⟨c2, b2, rfl, hb2, hch2⟩)
          go_roundg (m - (k + 1))
          case measure => have := HGK.out; omega
          case rel => exact ⟨k + 1, _, by omega, rfl, by go_num, by simp, hch2, by rw [List.length_cons, HLN.out], getLast_cons HLS.out, HBR.out.trans ((HBD.out.trans (hb2.mono HBD.out.size)).mono HBR.out.size)⟩
      · obtain rfl : k = m := by omega
        have HL := Lib.hid (links_any _ is wr hch (HE.out.later hbr).e (by have := HM.out; omega))
        have HCH := Lib.hid hch
        have HLN := Lib.hid hlen
        have HLS := Lib.hid hlast
        have HBR := Lib.hid hbr
        have hmx : (k < acts.length ∧ k = 40) ∨ (k = acts.length ∧ k ≤ 40) := by have := HM.out; omega
        clear hch hv hlen hlast hbr hgk
        rcases hmx with ⟨hx1, rfl⟩ | ⟨rfl, hx2⟩
        · go_wp2_with fail
          refine HL.out.mono ?_
          rintro e w2 ⟨lv, rfl, hb2, hown⟩
          obtain ⟨g, lcap, hlv, c0, c1, c2⟩ := last_cells hown HLN.out HLS.out
          subst hlv
          have hx3 : (40 : Int) < acts.length := by omega
          simp only [Nat.reduceMul, Nat.reduceAdd] at c0 c1 c2
          have HT := Lib.hid (inner_tail hc HBR.out HCH.out HE.out hb2 HLN.out HLS.out)
          have hb3 : Below w2.heap.size w2 (w2.alloc (.cells #[.int .i64 code, .string part, .int .i64 pos] 39)) := (Below.refl _ _).alloc (Nat.le_refl _) _
          have HH := Lib.hid (HT.out _ hb3).1
          have HB3 := Lib.hid hb3
          clear hown hb3
          go_wp2_with fail
          refine HH.out.mono ?_
          rintro e w4 ⟨rfl, hb4⟩
          have h4 := HT.out w4 (HB3.out.trans (hb4.mono HB3.out.size))
          have HA := Lib.hid (awake_any w4 h4.2.1)
          have HB4 := Lib.hid h4.2.2
          clear h4 hb4
          go_wp2_with fail
          refine HA.out.mono ?_
          rintro e w5 ⟨rfl, hb5⟩
          go_wp2
          go_ret
          exact ⟨rfl, HB4.out.trans (hb5.mono HB4.out.size)⟩
        · go_wp2_with fail
          refine HL.out.mono ?_
          rintro e w2 ⟨lv, rfl, hb2, hown⟩
          obtain ⟨g, lcap, hlv, c0, c1, c2⟩ := last_cells hown HLN.out HLS.out
          subst hlv
          have HT := Lib.hid (inner_tail hc HBR.out HCH.out HE.out hb2 HLN.out HLS.out)
          have hb3 : Below w2.heap.size w2 (w2.alloc (.cells #[.int .i64 code, .string part, .int .i64 pos] 39)) := (Below.refl _ _).alloc (Nat.le_refl _) _
          have HH := Lib.hid (HT.out _ hb3).1
          have HB3 := Lib.hid hb3
          clear hown hb3
          go_wp2_with fail
          refine HH.out.mono ?_
          rintro e w4 ⟨rfl, hb4⟩
          have h4 := HT.out w4 (HB3.out.trans (hb4.mono HB3.out.size))
          have HA := Lib.hid (awake_any w4 h4.2.1)
          have HB4 := Lib.hid h4.2.2
          clear h4 hb4
          go_wp2_with fail
          refine HA.out.mono ?_
          rintro e w5 ⟨rfl, hb5⟩
          go_wp2
          go_ret
          exact ⟨rfl, HB4.out.trans (hb5.mono HB4.out.size)⟩

set_option maxRecDepth 100000 in
set_option maxHeartbeats 2000000 in
theorem inner_zero (part : ByteArray) (pos : Int) (sv : Value) (w : World) (he : Env w) :
    Calls Tryd.prog 5 #[.int .i64 0, .string part, .int .i64 pos, sv] w (Ans true w) := by
  have HA := Lib.hid (awake_any w he)
  have hE := fun W => run_eql_nil_nil (P := Tryd.prog) W 24 (by kernel_rfl)
  clear he
  go_enter Tryd.func5, Tryd.ntmps5
  go_wp2_with (first
    | (go_at_call 16; refine (new_zero _ _ _).mono ?_; rintro e w' ⟨rfl, rfl⟩)
    | (go_at_call 13; refine HA.out.mono ?_; rintro e w' ⟨rfl, hb⟩))
  go_ret
  exact ⟨rfl, hb⟩

set_option maxRecDepth 100000 in
set_option maxHeartbeats 2000000 in
theorem inner_long (code : Int) (hc : (code == 0) = false) (part : ByteArray) (hl : 100 < part.size) (pos : Int) (sv : Value) (w : World) (he : Env w) :
    Calls Tryd.prog 5 #[.int .i64 code, .string part, .int .i64 pos, sv] w (Ans true w) := by
  have HA := Lib.hid (awake_any w he)
  have hE := fun W => run_eql_nil_nil (P := Tryd.prog) W 24 (by kernel_rfl)
  clear he
  go_enter Tryd.func5, Tryd.ntmps5
  go_wp2_with (first
    | (go_at_call 16; refine (new_zero _ _ _).mono ?_; rintro e w' ⟨rfl, rfl⟩)
    | (go_at_call 13; refine HA.out.mono ?_; rintro e w' ⟨rfl, hb⟩))
  go_ret
  exact ⟨rfl, hb⟩

theorem inner_any (code pos : Int) (part : ByteArray) (sv : Value) (acts : List ActV) (w : World) (he : Env w) (hs : ActsAt w sv acts) :
    Calls Tryd.prog 5 #[.int .i64 code, .string part, .int .i64 pos, sv] w (Ans true w) := by
  by_cases hc : code = 0
  · subst hc
    exact inner_zero part pos sv w he
  · have hcb : (code == 0) = false := by simpa using hc
    by_cases hl : 100 < part.size
    · exact inner_long code hcb part hl pos sv w he
    · exact inner_loop code pos part sv acts w he hcb (by omega) hs
end Go.Proofs.YtciebpijdgdcjaaDoor
