/-
  Decode: which command bytes are, or what is wrong with them (P11.2).
  Conditions: no more than 100000 bytes.
-/
import Derived.Test.YtnddojngbolbfaaDoorDecMath
import Derived.Test.YtnddojngbolbfaaDoorCheck
import Derived.Test.YtnddojngbolbfaaDoorRefNames
set_option linter.unusedVariables false
namespace Go.Proofs.YtnddojngbolbfaaDoor
open Go.RowKit

/-- A store into a command leaves bytes as they were. -/
theorem reader_else {W : World} {g b o : Nat} {bs : List Nat} {e : Int} {c : Cmd8} (h : ReaderAt W g bs e) (hc : CmdAt W b c) (hne : b ≠ g) (u : Value) : ReaderAt (W.setCell ⟨b, o, none⟩ u) g bs e := by
  obtain ⟨v, h1, ⟨A, cap, rfl, a2, a3, a4, a5, a6⟩, h3⟩ := h
  refine ⟨_, (Below.heap_setCell _ _ _ _ (Ne.symm hne)).trans h1, ⟨A, cap, rfl, a2, a3, a4, a5, fun hp => ?_⟩, h3⟩
  obtain ⟨bb, off, rfl, hlt, hcell⟩ := a6 hp
  refine ⟨bb, off, rfl, by simpa using hlt, fun j x hx => ?_⟩
  have hk := hcell j x hx
  have hbb : bb ≠ b := by
    rintro rfl
    have h' : W.heap[bb]? = _ := hc
    have : ∀ (k : Nat) (v : Value), (cmdA c)[k]? = some v → ∃ n, v = .int .i64 n := by
      intro k v hv
      rcases Nat.lt_or_ge k 8 with h8 | h8
      · rw [cmdA_get c h8] at hv; exact ⟨_, (Option.some.inj hv).symm⟩
      · rw [Array.getElem?_eq_none (by unfold cmdA; simpa using h8)] at hv; cases hv
    simp only [World.cell?, h'] at hk
    obtain ⟨n, hn⟩ := this _ _ hk
    cases hn
  rw [← hk]
  have : (W.setCell ⟨b, o, none⟩ u).heap[bb]? = W.heap[bb]? := Below.heap_setCell _ _ _ _ hbb
  simp [World.cell?, this]

set_option maxRecDepth 100000 in
set_option maxHeartbeats 1000000 in
theorem decode1_any (b j g rb : Nat) (c : Cmd8) (bs : List Nat) (e0 : Int) (W : World) (hj : j < 8) (h : CmdAt W b c) (hr : ReaderAt W g bs e0) (hx : Boxed W rb 70 (.pointer (some ⟨g, 0, none⟩))) (h1 : b ≠ g) (h2 : rb ≠ g) (h4 : rb ≠ b) :
    Calls Tryd.prog 34 #[.pointer (some ⟨b, j, none⟩), .pointer (some ⟨rb, 0, none⟩)] W (fun e W' => e = .returned (.int .i64 (numT bs e0 2147483647).2.2) ∧ Apart (fun k => k = b ∨ k = g) W W' ∧
      CmdAt W' b (updC c j (numT bs e0 2147483647).1) ∧ ReaderAt W' g (numT bs e0 2147483647).2.1 (numT bs e0 2147483647).2.2 ∧ Boxed W' rb 70 (.pointer (some ⟨g, 0, none⟩))) := by
  have HR := Lib.hid (read_any g bs e0 2147483647 W (by decide) hr)
  have hm := numT_le bs e0 2147483647
  generalize numT bs e0 2147483647 = T at *
  obtain ⟨n, bs', e'⟩ := T
  simp only at hm
  have hw : IntKind.i64.wrap (n : Int) = (n : Int) := by rw [IntWalk.i64_in _ (by omega)]
  have c1 := hx.cell
  have H := Lib.hid h
  have HX := Lib.hid hx
  clear h hr hx
  go_enter Tryd.func34, Tryd.ntmps34
  go_wp2_with fail
  refine HR.out.mono ?_
  rintro e w1 ⟨rfl, ha, hr1⟩
  have hc1 := H.out.apart ha h1
  have e1 := hc1.cell hj
  have f1 := hc1.frozen j
  have HC1 := Lib.hid hc1
  have HX1 := Lib.hid (box_apart HX.out ha h2)
  have k1 := HX1.out.cell
  have HA := Lib.hid (show Apart (fun k => k = b ∨ k = g) W w1 from ⟨ha.os, ha.tape, ha.output, ha.size, fun k hk hn => ha.block k hk (fun e => hn (.inr e))⟩)
  have HR1 := Lib.hid hr1
  clear ha hr1 hc1 c1
  go_upto_region 2 with fail
  have HR2 := Lib.hid (reader_else (o := j) HR1.out HC1.out h1 (.int .i64 n))
  have HC2 := Lib.hid (HC1.out.set hj n)
  have HX2 := Lib.hid (box_else (o := j) HX1.out h4 (.int .i64 n))
  have HA2 := Lib.hid (HA.out.set (p := ⟨b, j, none⟩) (.inl (.inl rfl)) (.int .i64 n))
  have k2 := HX2.out.cell
  have HE := Lib.hid (err_any g bs' e' _ HR2.out)
  generalize w1.setCell ⟨b, j, none⟩ (.int .i64 n) = w2 at *
  clear e1 f1 k1
  go_wp2_with fail
  refine HE.out.mono ?_
  rintro e w3 ⟨rfl, rfl⟩
  go_wp2
  go_ret
  exact ⟨rfl, HA2.out, HC2.out, HR2.out, HX2.out⟩

/-- The reader's closure behind i fields. -/
structure DecJ (b g rb : Nat) (fs : List Nat) (c : Cmd8) (bs : List Nat) (i : Nat) (W : World) : Prop where
  cmd : CmdAt W b (rdT fs c bs i).1
  rd : ReaderAt W g (rdT fs c bs i).2.1 (rdT fs c bs i).2.2
  box : Boxed W rb 70 (.pointer (some ⟨g, 0, none⟩))

theorem dec_step (b g rb : Nat) {op : Int} (fs : List Nat) (hfs : fieldsT op = some fs) (c : Cmd8) (bs : List Nat) (h1 : b ≠ g) (h2 : rb ≠ g) (h4 : rb ≠ b) :
    StepJ 34 #[.pointer (some ⟨rb, 0, none⟩)] b fs (rdE fs c bs) (fun k => k = b ∨ k = g) (DecJ b g rb fs c bs) := by
  intro i j W hij ⟨a1, a2, a3⟩
  have hj := fieldsT_lt hfs j (List.mem_of_getElem? hij)
  refine (decode1_any b j g rb _ _ _ W hj.2 a1 a2 a3 h1 h2 h4).mono ?_
  rintro e W' ⟨rfl, k1, k2, k3, k4⟩
  refine ⟨rfl, k1, ?_, k3, k4⟩
  show CmdAt W' b (updC _ (atF fs i) _)
  rw [atF_eq hij]
  exact k2

theorem results_row_tmp {P : Program} {fn : Func} {p u : Tmp} {ty : TypeId} (h : fn.results = #[.cell p ty, .tmp u]) (tmps : Array Value) (w : World) (g : Nat) (t : TypeId) (cs : Array Value) (fr : Nat × Nat) (d : TypeDesc)
    (hp : tmps.getD p undef = .pointer (some ⟨g, 0, none⟩)) (hg : w.heap[g]? = some (.cells cs t fr))
    (hu : P.underlying ty = some d) (hd : (match d with | .struct _ | .array _ _ => true | _ => false) = true) (hi : (P.info? ty).map (·.size) = some cs.size) (x : Value) (hx : tmps.getD u undef = x) :
    (results fn tmps).run P w = .ok (.tuple #[.agg cs, x]) w := by
  rw [results_cell_tmp h, hp, hx]
  simp [asAddr, run_loadVar_row w g t ty cs fr d hg hu hd hi, Result.andThen]

/-- What Decode answers. -/
def DecP (bs : List Nat) (w : World) (e : Ending) (w' : World) : Prop :=
  ∃ u, e = .returned (.tuple #[.agg (cmdA (decodeT bs).1), u]) ∧ ErrAt w.heap.size w' u (decodeT bs).2 ∧ Below w.heap.size w w'

theorem err_all {lo : Nat} {W : World} {v : Value} {ks : List LKey} (h : ErrAt lo W v ks) {b : Nat} (hb : b < lo) (d : Cmd8) :
    ErrAt lo ((((((((W.setCell ⟨b, 0, none⟩ (.int .i64 (d 0))).setCell ⟨b, 1, none⟩ (.int .i64 (d 1))).setCell ⟨b, 2, none⟩ (.int .i64 (d 2))).setCell ⟨b, 3, none⟩ (.int .i64 (d 3))).setCell ⟨b, 4, none⟩ (.int .i64 (d 4))).setCell ⟨b, 5, none⟩ (.int .i64 (d 5))).setCell ⟨b, 6, none⟩ (.int .i64 (d 6))).setCell ⟨b, 7, none⟩ (.int .i64 (d 7))) v ks :=
  (((((((h.elsewhere hb _).elsewhere hb _).elsewhere hb _).elsewhere hb _).elsewhere hb _).elsewhere hb _).elsewhere hb _).elsewhere hb _
/-- The result's command is stored, whatever stood there. -/
theorem dec_end {w W : World} {b lo : Nat} {c : Cmd8} {u : Value} {ks : List LKey} (hz : CmdAt W b c) (he : ErrAt lo W u ks) (hlo : b < lo) (hb : Below w.heap.size w W) (hw : w.heap.size ≤ b) (d : Cmd8) :
    CmdAt ((((((((W.setCell ⟨b, 0, none⟩ (.int .i64 (d 0))).setCell ⟨b, 1, none⟩ (.int .i64 (d 1))).setCell ⟨b, 2, none⟩ (.int .i64 (d 2))).setCell ⟨b, 3, none⟩ (.int .i64 (d 3))).setCell ⟨b, 4, none⟩ (.int .i64 (d 4))).setCell ⟨b, 5, none⟩ (.int .i64 (d 5))).setCell ⟨b, 6, none⟩ (.int .i64 (d 6))).setCell ⟨b, 7, none⟩ (.int .i64 (d 7))) b d ∧ ErrAt w.heap.size ((((((((W.setCell ⟨b, 0, none⟩ (.int .i64 (d 0))).setCell ⟨b, 1, none⟩ (.int .i64 (d 1))).setCell ⟨b, 2, none⟩ (.int .i64 (d 2))).setCell ⟨b, 3, none⟩ (.int .i64 (d 3))).setCell ⟨b, 4, none⟩ (.int .i64 (d 4))).setCell ⟨b, 5, none⟩ (.int .i64 (d 5))).setCell ⟨b, 6, none⟩ (.int .i64 (d 6))).setCell ⟨b, 7, none⟩ (.int .i64 (d 7))) u ks ∧ Below w.heap.size w ((((((((W.setCell ⟨b, 0, none⟩ (.int .i64 (d 0))).setCell ⟨b, 1, none⟩ (.int .i64 (d 1))).setCell ⟨b, 2, none⟩ (.int .i64 (d 2))).setCell ⟨b, 3, none⟩ (.int .i64 (d 3))).setCell ⟨b, 4, none⟩ (.int .i64 (d 4))).setCell ⟨b, 5, none⟩ (.int .i64 (d 5))).setCell ⟨b, 6, none⟩ (.int .i64 (d 6))).setCell ⟨b, 7, none⟩ (.int .i64 (d 7))) :=
  ⟨hz.all d, (err_all he hlo d).weaken (by omega), below_all hb hw d⟩

abbrev zero8 : Array Value := #[.int .i64 0, .int .i64 0, .int .i64 0, .int .i64 0, .int .i64 0, .int .i64 0, .int .i64 0, .int .i64 0]

set_option maxRecDepth 100000 in
set_option maxHeartbeats 1000000 in
theorem decode_nil (A : Option Addr) (c : Nat) (w : World) : Calls Tryd.prog 16 #[.slice A 0 c] w (DecP [] w) := by
  have hb : Below w.heap.size w (w.alloc (.cells zero8 23)) := (Below.refl _ _).alloc (Nat.le_refl _) _
  have hz : CmdAt (w.alloc (.cells zero8 23)) w.heap.size zeroC := World.alloc_heap_new _ _
  have hlt := hz.lt
  go_enter Tryd.func16, Tryd.ntmps16
  go_upto_region 1 with fail
  generalize w.alloc (.cells zero8 23) = w1 at *
  have HZ := Lib.hid hz
  have HB := Lib.hid hb
  clear hz hb
  go_wp2_with fail
  refine (new_any 3 cmdS 0 w1).mono ?_
  rintro e w2 ⟨u, rfl, he, hb2⟩
  have hz2 := HZ.out.keep hb2
  have HD := Lib.hid (dec_end hz2 he hlt (HB.out.trans (hb2.mono HB.out.size)) (Nat.le_refl _) zeroC)
  obtain ⟨e0, e1, e2, e3, e4, e5, e6, e7⟩ := hz2.eight
  have fz := hz2.frozen
  clear he hb2 hz2
  dsimp only
  repeat go_step
  refine bodyPost_ret (v := .tuple #[.agg (cmdA zeroC), u]) (results_row_tmp rfl _ _ w.heap.size _ _ _ _ rfl HD.out.1 Tryd.underlying23 rfl (Tryd.sizeCmd _) _ rfl) rfl ?_
  exact ⟨u, rfl, HD.out.2.1, HD.out.2.2⟩
end Go.Proofs.YtnddojngbolbfaaDoor
