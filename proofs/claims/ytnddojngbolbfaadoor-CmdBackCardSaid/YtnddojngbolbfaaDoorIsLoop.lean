/-
  errors.Is, Go's own text, at a target that is a Fault with a code alone: over any error of the program it tells whether one of its links has this code.
  Conditions: the target lies in a block of its own, which is none of the error's.
-/
import Derived.Test.YtnddojngbolbfaaDoorIs
import Derived.Deep.LoopGhost
namespace Go.Proofs.YtnddojngbolbfaaDoor
open Go.RowKit Go.Extern.Stop Go.Stop Go.Extern

/-- The same as Chain, with its depth. -/
inductive ChainN (B : Nat) (w : World) : Nat → Value → List Item → Prop
  | nil : ChainN B w 0 .nilIface []
  | fault {d : Nat} (i : Item) {v : Value} {is : List Item} (hb : i.b < B) (hc : w.heap[i.b]? = some (.cells #[.int .i64 i.code, .string i.part, .int .i64 i.pos, v] 83 (0, 0))) (c : ChainN B w d v is) :
      ChainN B w (d + 1) (.iface 80 (.pointer (some ⟨i.b, 0, none⟩))) (i :: is)

theorem Chain.deep {B : Nat} {w : World} {v : Value} {is : List Item} (c : Chain B w v is) : ∃ d, ChainN B w d v is := by
  induction c with
  | nil => exact ⟨0, .nil⟩
  | fault i hb hc _ ih => obtain ⟨d, h⟩ := ih; exact ⟨d + 1, .fault i hb hc h⟩

theorem ChainN.kept {B : Nat} {w w' : World} {d : Nat} {v : Value} {is : List Item} (c : ChainN B w d v is) {C : Nat} (hBC : B ≤ C) (h : Below C w w') : ChainN B w' d v is := by
  induction c with
  | nil => exact .nil
  | fault i hb hc _ ih => exact .fault i hb (by rw [h.block _ (by omega)]; exact hc) ih

theorem ChainN.iface {B : Nat} {w : World} {d : Nat} {v : Value} {is : List Item} (c : ChainN B w d v is) (hv : v ≠ .nilIface) : ∃ T x, v = .iface T x := by
  cases c with
  | nil => exact absurd rfl hv
  | fault _ _ _ _ => exact ⟨_, _, rfl⟩

theorem ChainN.nil_items {B : Nat} {w : World} {d : Nat} {is : List Item} (c : ChainN B w d .nilIface is) : is = [] := by
  cases c; rfl

/-- The target: a Fault with a code alone. -/
def Target (w : World) (tb : Nat) (c : Int) : Prop := w.heap[tb]? = some (.cells #[.int .i64 c, .string ⟨#[]⟩, .int .i64 0, .nilIface] 83 (0, 0))

theorem Target.kept {w w' : World} {tb B : Nat} {c : Int} (h : Target w tb c) (hb : Below B w w') (hB : tb < B) : Target w' tb c := (hb.block tb hB).trans h

def hasCode (c : Int) (is : List Item) : Bool := is.any fun i => c == i.code

theorem Tryd.infoPtr : ∃ i, Tryd.prog.info? 80 = some i ∧ i.comparable = true :=
  Option.map_eq_some_iff.1 (show (Tryd.prog.info? 80).map (·.comparable) = some true by kernel_rfl)
theorem Tryd.infoFault : ∃ i, Tryd.prog.info? 83 = some i ∧ i.size ≠ 0 := by
  obtain ⟨i, h1, h2⟩ := Option.map_eq_some_iff.1 (show (Tryd.prog.info? 83).map (·.size) = some 4 by kernel_rfl)
  exact ⟨i, h1, by omega⟩

/-- Two Faults in two blocks are two errors. -/
theorem eql_other {W : World} {a b : Nat} {ca cb : Array Value} {ta tb : TypeId} (hne : a ≠ b) (ha : W.heap[a]? = some (.cells ca ta (0, 0))) (hb : W.heap[b]? = some (.cells cb tb (0, 0))) :
    (Go.binOp .eql 27 (.iface 80 (.pointer (some ⟨a, 0, none⟩))) (.iface 80 (.pointer (some ⟨b, 0, none⟩)))).run Tryd.prog W = .ok (.bool false) W := by
  obtain ⟨i, hi, hc⟩ := Tryd.infoPtr
  obtain ⟨j, hj, hs⟩ := Tryd.infoFault
  exact run_eql_iface_ptr_other W Tryd.underlying27 Tryd.underlying80 hi hc hj hs (by intro e; cases e; exact hne rfl) ha hb

/-- (*Fault).Is at the target. -/
theorem faultIs_target (i : Item) (v : Value) (tb : Nat) (c : Int) (w : World) (hc : w.heap[i.b]? = some (.cells #[.int .i64 i.code, .string i.part, .int .i64 i.pos, v] 83 (0, 0))) (ht : Target w tb c) :
    Calls Tryd.prog 105 #[.pointer (some ⟨i.b, 0, none⟩), .iface 80 (.pointer (some ⟨tb, 0, none⟩))] w (Ans (c == i.code) w) := by
  obtain ⟨k0, _, _, _⟩ := cell_of_block4 hc
  obtain ⟨t0, t1, t2, t3⟩ := cell_of_block4 ht
  refine (faultIs_link i.b tb i.code c 0 ⟨#[]⟩ w k0 t0 t1 t2 t3).mono fun e w' h => ⟨?_, h.2⟩
  rw [h.1]
  have e1 : (ByteArray.toList ⟨#[]⟩ == []) = true := by decide +kernel
  rw [e1]
  simp

def IsRel (w : World) (tb : Nat) (c : Int) (is : List Item) (g : Nat) (v : Value) (wr : World) : Prop :=
  ∃ todo, v ≠ .nilIface ∧ ChainN tb wr g v todo ∧ hasCode c is = hasCode c todo ∧ Below w.heap.size w wr ∧ Target wr tb c

set_option maxRecDepth 100000 in
set_option maxHeartbeats 4000000 in
theorem is_loop (v : Value) (is : List Item) (tb : Nat) (c : Int) (w : World) (hch : Chain tb w v is) (hv : v ≠ .nilIface) (ht : Target w tb c) (htb : tb < w.heap.size) :
    Calls Tryd.prog 60 #[v, .iface 80 (.pointer (some ⟨tb, 0, none⟩)), .bool true] w (Ans (hasCode c is) w) := by
  obtain ⟨d, hd⟩ := hch.deep
  have H0 : IsRel w tb c is d v w := ⟨is, hv, hd, rfl, Below.refl _ _, ht⟩
  have HT := Lib.hid H0
  clear hch hv ht hd H0
  go_enter Tryd.func60, Tryd.ntmps60
  go_wp2_with fail
  go_loopg [0] d (fun g v wr => IsRel w tb c is g v wr)
  case atStart => exact HT.out
  case round =>
    obtain ⟨todo, hv, hc, hcode, hb, ht⟩ := hrel
    have HH := Lib.hid hcode
    clear hcode
    have h31 := @run_callFunc_extern Tryd.prog 59 _ ReflectliteType.typeOf Tryd.func59 (by kernel_rfl) (by kernel_rfl) (by kernel_rfl) (by kernel_rfl)
    cases hc with
    | nil => exact absurd rfl hv
    | @fault d i v2 is2 hib hblk hc2 =>
      have n1 := Tryd.isFault
      have n2 := Tryd.unFault
      have mI := Tryd.methodIsFault
      have mU := Tryd.methodUnFault
      have htw : tb < wr.heap.size := Nat.lt_of_lt_of_le htb hb.size
      have q1 := eql_other (W := wr) (show i.b ≠ tb by omega) hblk ht
      have hI := Lib.hid (faultIs_target i v2 tb c wr hblk ht)
      have HB := Lib.hid hb
      by_cases hcc : (c == i.code) = true
      · have HI := Lib.hid hI.out
        have HC2 := Lib.hid hcc
        have hI2 := Lib.hid (show Calls Tryd.prog 105 #[.pointer (some ⟨i.b, 0, none⟩), .iface 80 (.pointer (some ⟨tb, 0, none⟩))] wr (Ans true wr) by have := HI.out; rwa [hcc] at this)
        clear hcc hb ht hv hib hblk hc2
        go_wp2_with (go_at_call 105; refine hI2.out.mono ?_; rintro e w2 ⟨rfl, hb2⟩)
        go_ret
        exact ⟨by rw [HH.out]; simp [hasCode, HC2.out], HB.out.trans (hb2.mono HB.out.size)⟩
      · have hcf : (c == i.code) = false := by simpa using hcc
        have hI2 := Lib.hid (show Calls Tryd.prog 105 #[.pointer (some ⟨i.b, 0, none⟩), .iface 80 (.pointer (some ⟨tb, 0, none⟩))] wr (Ans false wr) by have := hI.out; rwa [hcf] at this)
        have hH2 : hasCode c is = hasCode c is2 := by rw [HH.out]; simp [hasCode, hcf]
        have HH2 := Lib.hid hH2
        have hbw : i.b < wr.heap.size := by omega
        have k3 : ∀ w2, Below wr.heap.size wr w2 → w2.cell? ⟨i.b, 3, none⟩ = some v2 := fun w2 h => by rw [h.cell (p := ⟨i.b, 3, none⟩) hbw]; exact (cell_of_block4 hblk).2.2.2
        have K3 := Lib.hid k3
        have HC := Lib.hid hc2
        have HTg := Lib.hid ht
        by_cases hv2 : v2 = .nilIface
        · subst hv2
          have hE := fun W => run_eql_nil_nil (P := Tryd.prog) W 27 (by kernel_rfl)
          have h0 := hc2.nil_items
          have H0 := Lib.hid h0
          clear hcc hcf hb ht hv hib hblk hc2 hH2 k3 h0 hbw
          go_wp2_with (first
            | (go_at_call 105; refine hI2.out.mono ?_; rintro e w2 ⟨rfl, hb2⟩; have k3 := K3.out w2 hb2)
            | (go_at_call 106; refine (unwrap_some _ _ _ k3).mono ?_; rintro e w3 ⟨rfl, rfl⟩))
          go_ret
          exact ⟨by rw [HH2.out, H0.out]; rfl, HB.out.trans (hb2.mono HB.out.size)⟩
        · obtain ⟨T, x, rfl⟩ := hc2.iface hv2
          have hE := fun W => run_eql_held_nil (P := Tryd.prog) W 27 T x (by kernel_rfl)
          clear hcc hcf hb ht hv hib hblk hc2 hH2 k3 hbw
          go_wp2_with (first
            | (go_at_call 105; refine hI2.out.mono ?_; rintro e w2 ⟨rfl, hb2⟩; have k3 := K3.out w2 hb2)
            | (go_at_call 106; refine (unwrap_some _ _ _ k3).mono ?_; rintro e w3 ⟨rfl, rfl⟩))
          go_roundg d
          case measure => omega
          case rel => exact ⟨_, hv2, HC.out.kept (Nat.le_of_lt htw) hb2, HH2.out, HB.out.trans (hb2.mono HB.out.size), HTg.out.kept hb2 htw⟩
end Go.Proofs.YtnddojngbolbfaaDoor
