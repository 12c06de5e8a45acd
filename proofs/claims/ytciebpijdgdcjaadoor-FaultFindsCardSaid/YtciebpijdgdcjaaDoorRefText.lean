/-
  The reference's Has and Text over its own chains.
  Conditions: at most 1000 links, each with numbers that are ints and a part of at most 1000000 bytes.
-/
import Derived.Test.YtciebpijdgdcjaaDoorRef
import Derived.Deep.LoopGhost
namespace Go.Proofs.YtciebpijdgdcjaaDoor
open Go.RowKit Go.Extern.Stop Go.Stop Go.Extern

set_option maxRecDepth 100000 in
set_option maxHeartbeats 1000000 in
theorem rhas_zero (s : Bool) (lv : Value) (hlv : ∃ a n c, lv = .slice a n c) (w : World) :
    Calls Tryd.prog 15 #[.agg #[.bool s, lv], .int .i64 0] w (Ans (!s) w) := by
  obtain ⟨a, n, cp, rfl⟩ := hlv
  go_enter Tryd.func15, Tryd.ntmps15
  go_wp2
  go_ret
  exact ⟨rfl, (Below.refl _ _).alloc (Nat.le_refl _) _⟩

theorem hasCode_take (c : Int) (js : List Item) (k : Nat) (hk : k < js.length) : hasCode c (js.take (k + 1)) = (hasCode c (js.take k) || c == js[k].code) := by
  unfold hasCode
  rw [List.take_succ_eq_append_getElem hk, List.any_append]
  simp

set_option maxRecDepth 100000 in
set_option maxHeartbeats 2000000 in
theorem rhas_none (s : Bool) (c : Int) (hc : (c == 0) = false) (w : World) :
    Calls Tryd.prog 15 #[.agg #[.bool s, .slice none 0 0], .int .i64 c] w (Ans false w) := by
  go_enter Tryd.func15, Tryd.ntmps15
  go_wp2_with fail
  refine wp_loop_rounds 1 ?_
  rw [rounds_succ]
  go_wp2
  go_ret
  exact ⟨rfl, (Below.refl _ _).alloc (Nat.le_refl _) _⟩

set_option maxRecDepth 100000 in
set_option maxHeartbeats 2000000 in
theorem rhas_some (s : Bool) (js : List Item) (g cap : Nat) (c : Int) (hc : (c == 0) = false) (w : World) (hg : g < w.heap.size) (hn : js.length ≤ 1048576)
    (hcells : ∀ j (h : j < js.length), w.cell? ⟨g, j * 3, none⟩ = some (.int .i64 (js[j]'h).code)) :
    Calls Tryd.prog 15 #[.agg #[.bool s, .slice (some ⟨g, 0, none⟩) js.length cap], .int .i64 c] w (Ans (hasCode c js) w) := by
  have HC := Lib.hid (fun j (h : j < js.length) o => (World.cell?_alloc_lt w o ⟨g, j * 3, none⟩ hg).trans (hcells j h))
  clear hcells
  go_enter Tryd.func15, Tryd.ntmps15
  go_wp2_with fail
  go_loop [5] (fun x => ∃ k : Nat, k ≤ js.length ∧ x = .int .i64 k ∧ Hid (hasCode c (js.take k) = false)) (fun x => js.length - (intOf x).toNat)
  case atStart => exact ⟨0, Nat.zero_le _, rfl, rfl⟩
  case round =>
    obtain ⟨k, hk, rfl, hno⟩ := hrel
    by_cases hlt : k < js.length
    · have q := HC.out k hlt
      have HT := Lib.hid (hasCode_take c js k hlt)
      by_cases hcc : js[k].code = c
      · have hb : (js[k].code == c) = true := by simp [hcc]
        have HF := Lib.hid (show hasCode c js = true by
          refine List.any_eq_true.2 ⟨js[k], List.getElem_mem hlt, ?_⟩
          simp [hcc])
        clear hcc
        go_wp2
        go_ret
        exact ⟨by rw [HF.out]; rfl, (Below.refl _ _).alloc (Nat.le_refl _) _⟩
      · have hb : (js[k].code == c) = false := by simp [hcc]
        have hno2 : Hid (hasCode c (js.take (k + 1)) = false) := by
          have h1 := HT.out
          rw [hno.out] at h1
          unfold Hid
          rw [h1]
          simp [Ne.symm hcc]
        clear hcc
        go_wp2
        go_round
        case rel => exact ⟨k + 1, by omega, by go_num, hno2⟩
        case measure => simp [intOf]; omega
    · obtain rfl : k = js.length := by omega
      have HF := Lib.hid (show hasCode c js = false by have := hno.out; rwa [List.take_length] at this)
      go_wp2
      go_ret
      exact ⟨by rw [HF.out]; rfl, (Below.refl _ _).alloc (Nat.le_refl _) _⟩

theorem rhas_any (s : Bool) (lv : Value) (js : List Item) (base : Nat) (c : Int) (hc : (c == 0) = false) (w : World) (h : RAt base w lv js) (hnil : js = [] → lv = .slice none 0 0) (hn : js.length ≤ 1048576) :
    Calls Tryd.prog 15 #[.agg #[.bool s, lv], .int .i64 c] w (Ans (hasCode c js) w) := by
  by_cases hj : js = []
  · subst hj
    rw [hnil rfl]
    exact rhas_none s c hc w
  · obtain ⟨g, cap, rfl, hg, _, hcells⟩ := h.cells (by cases js with | nil => exact absurd rfl hj | cons a l => simp)
    exact rhas_some s js g cap c hc w hg hn (fun j h => (hcells j h).1)

set_option maxRecDepth 100000 in
set_option maxHeartbeats 1000000 in
theorem rtext_none (lv : Value) (hlv : ∃ a n c, lv = .slice a n c) (w : World) :
    Calls Tryd.prog 12 #[.agg #[.bool false, lv]] w (TextP [] w) := by
  obtain ⟨a, n, cp, rfl⟩ := hlv
  go_enter Tryd.func12, Tryd.ntmps12
  go_wp2
  go_ret
  exact ⟨rfl, (Below.refl _ _).alloc (Nat.le_refl _) _⟩

set_option maxRecDepth 100000 in
set_option maxHeartbeats 1000000 in
theorem rtext_alien (w : World) :
    Calls Tryd.prog 12 #[.agg #[.bool true, .slice none 0 0]] w (TextP (textOf []) w) := by
  go_enter Tryd.func12, Tryd.ntmps12
  go_wp2
  go_ret
  exact ⟨rfl, (Below.refl _ _).alloc (Nat.le_refl _) _⟩

/-- The text so far. -/
def soFar (js : List Item) (k : Nat) : List UInt8 := Lib.join ((js.take k).map linkText) [58, 32]

theorem soFar_one (js : List Item) (h : 0 < js.length) : soFar js 1 = linkText js[0] := by
  cases js with
  | nil => simp at h
  | cons j js => simp [soFar, Lib.join, List.intercalate]

theorem join_snoc (l : List (List UInt8)) (x sep : List UInt8) (h : l ≠ []) : Lib.join (l ++ [x]) sep = Lib.join l sep ++ sep ++ x := by
  induction l with
  | nil => exact absurd rfl h
  | cons a l ih =>
    cases l with
    | nil => simp [Lib.join, List.intercalate]
    | cons b l =>
      have := ih (by simp)
      simp only [Lib.join, List.intercalate, List.cons_append, List.intersperse_cons_cons, List.flatten_cons] at this ⊢
      rw [this]
      simp

theorem soFar_step (js : List Item) (k : Nat) (hk : k < js.length) (h0 : 0 < k) : soFar js (k + 1) = soFar js k ++ [58, 32] ++ linkText js[k] := by
  unfold soFar
  rw [List.take_succ_eq_append_getElem hk, List.map_append, List.map_cons, List.map_nil, join_snoc]
  intro e
  have hl : ((js.take k).map linkText).length = 0 := by rw [e]; rfl
  rw [List.length_map, List.length_take] at hl
  omega

theorem soFar_len (js : List Item) (k : Nat) (hk : k ≤ 1000) (hok : ∀ i ∈ js, i.ok) : (soFar js k).length ≤ 1000 * 1000102 := by
  have := join_len (js.take k) 1000 (by simp; omega) (fun i hi => linkText_len i (hok i (List.mem_of_mem_take hi)))
  exact this

theorem soFar_all (js : List Item) (h : 0 < js.length) : soFar js js.length = textOf js := by
  unfold soFar
  rw [List.take_length]
  cases js with
  | nil => simp at h
  | cons j js => rfl

def RTextRel (w : World) (js : List Item) (sv s x : Value) (wr : World) : Prop :=
  ∃ k : Nat, 1 ≤ k ∧ k ≤ js.length ∧ x = .int .i64 k ∧ s = .string ⟨(soFar js k).toArray⟩ ∧ Below w.heap.size w wr ∧ w.heap.size < wr.heap.size ∧ wr.cell? ⟨w.heap.size, 1, none⟩ = some sv

/-- The two sums of a round. -/
theorem soFar_sums (js : List Item) (k : Nat) (hk : k < js.length) (h0 : 0 < k) (hn : js.length ≤ 1000) (hok : ∀ i ∈ js, i.ok) : ∃ s1 : ByteArray,
    (∀ W, (Op.stringOp .add ⟨(soFar js k).toArray⟩ ⟨#[58, 32]⟩).run Tryd.prog W = .ok (.string s1) W) ∧ (∀ W, (Op.stringOp .add s1 ⟨(linkText js[k]).toArray⟩).run Tryd.prog W = .ok (.string ⟨(soFar js (k + 1)).toArray⟩) W) := by
  have l1 := soFar_len js k (by omega) hok
  have l2 := linkText_len js[k] (hok _ (List.getElem_mem hk))
  refine ⟨⟨(soFar js k ++ [58, 32]).toArray⟩, fun W => ?_, fun W => ?_⟩
  · rw [show (ByteArray.mk #[58, 32]) = ByteArray.mk [58, 32].toArray from rfl, run_string_add_sum W _ _ (by rw [size_mk, size_mk]; simp; omega), ByteArray.mk_append_mk]
  · rw [run_string_add_sum W _ _ (by rw [size_mk, size_mk]; simp; omega), ByteArray.mk_append_mk, soFar_step js k hk h0]

set_option maxRecDepth 100000 in
set_option maxHeartbeats 4000000 in
theorem rtext_some (js : List Item) (g cap : Nat) (w : World) (hg : g < w.heap.size) (hpos : 0 < js.length) (hn : js.length ≤ 1000) (hok : ∀ i ∈ js, i.ok)
    (hcells : ∀ j (h : j < js.length), w.cell? ⟨g, j * 3, none⟩ = some (.int .i64 (js[j]'h).code) ∧ w.cell? ⟨g, j * 3 + 1, none⟩ = some (.string (js[j]'h).part) ∧ w.cell? ⟨g, j * 3 + 2, none⟩ = some (.int .i64 (js[j]'h).pos)) :
    Calls Tryd.prog 12 #[.agg #[.bool true, .slice (some ⟨g, 0, none⟩) js.length cap]] w (TextP (textOf js) w) := by
  have HC := Lib.hid (fun j (h : j < js.length) (w' : World) (hb : Below w.heap.size w w') => show w'.cell? ⟨g, j * 3, none⟩ = some (.int .i64 (js[j]'h).code) ∧ w'.cell? ⟨g, j * 3 + 1, none⟩ = some (.string (js[j]'h).part) ∧ w'.cell? ⟨g, j * 3 + 2, none⟩ = some (.int .i64 (js[j]'h).pos) from
    ⟨(hb.cell (p := ⟨g, j * 3, none⟩) hg).trans (hcells j h).1, (hb.cell (p := ⟨g, j * 3 + 1, none⟩) hg).trans (hcells j h).2.1, (hb.cell (p := ⟨g, j * 3 + 2, none⟩) hg).trans (hcells j h).2.2⟩)
  have HK := Lib.hid hok
  have hb0 : Below w.heap.size w (w.alloc (.cells #[.bool true, .slice (some ⟨g, 0, none⟩) js.length cap] 27)) := (Below.refl _ _).alloc (Nat.le_refl _) _
  obtain ⟨q0, q1, q2⟩ := HC.out 0 hpos _ hb0
  simp only [Nat.zero_mul, Nat.zero_add] at q0 q1 q2
  have h00 := hok js[0] (List.getElem_mem hpos)
  have HO := Lib.hid (one_any js[0] h00.1 h00.2.1 (by have := h00.2.2; omega) (w.alloc (.cells #[.bool true, .slice (some ⟨g, 0, none⟩) js.length cap] 27)))
  have HB0 := Lib.hid hb0
  have hn0 : ((js.length : Int) == 0) = false := beq_eq_false_iff_ne.2 (by omega)
  clear hcells hok hb0 h00
  go_enter Tryd.func12, Tryd.ntmps12
  have hz0 : w.heap.size < (w.alloc (.cells #[.bool true, .slice (some ⟨g, 0, none⟩) js.length cap] 27)).heap.size := by simp
  have HZ := Lib.hid hz0
  have HSL := Lib.hid (show (w.alloc (.cells #[.bool true, .slice (some ⟨g, 0, none⟩) js.length cap] 27)).cell? ⟨w.heap.size, 1, none⟩ = some (.slice (some ⟨g, 0, none⟩) js.length cap) by simp)
  clear hz0
  go_wp2_with (go_at_call 21; refine HO.out.mono ?_; rintro e w1 ⟨rfl, hb1⟩)
  have HR0 : RTextRel w js (.slice (some ⟨g, 0, none⟩) js.length cap) (.string ⟨(linkText js[0]).toArray⟩) (.int .i64 1) w1 :=
    ⟨1, Nat.le_refl _, hpos, rfl, by rw [soFar_one js hpos], HB0.out.trans (hb1.mono HB0.out.size), Nat.lt_of_lt_of_le HZ.out hb1.size, by rw [hb1.cell (p := ⟨w.heap.size, 1, none⟩) HZ.out]; exact HSL.out⟩
  have HRR := Lib.hid HR0
  clear HR0 hb1
  go_loopw [3, 4] (fun s x wr => RTextRel w js (.slice (some ⟨g, 0, none⟩) js.length cap) s x wr) (fun _ x _ => js.length - (intOf x).toNat)
  case atStart => exact HRR.out
  case round =>
    obtain ⟨k, hk1, hk, rfl, rfl, hbr, hzr, hsl⟩ := hrel
    by_cases hlt : k < js.length
    · obtain ⟨p0, p1, p2⟩ := HC.out k hlt wr hbr
      obtain ⟨s1, a1, a2⟩ := soFar_sums js k hlt hk1 hn HK.out
      have hkk := HK.out js[k] (List.getElem_mem hlt)
      have HOk := Lib.hid (one_any js[k] hkk.1 hkk.2.1 (by have := hkk.2.2; omega) wr)
      have HBR := Lib.hid hbr
      have HZR := Lib.hid hzr
      have HSR := Lib.hid hsl
      clear hkk hbr
      go_wp2_with (go_at_call 21; refine HOk.out.mono ?_; rintro e w2 ⟨rfl, hb2⟩)
      go_roundw
      case rel => exact ⟨k + 1, by omega, by omega, by go_num, rfl, HBR.out.trans (hb2.mono HBR.out.size), Nat.lt_of_lt_of_le HZR.out hb2.size, by rw [hb2.cell (p := ⟨w.heap.size, 1, none⟩) HZR.out]; exact HSR.out⟩
      case measure => simp [intOf]; omega
    · obtain rfl : k = js.length := by omega
      have HF := Lib.hid (soFar_all js hpos)
      have HBR := Lib.hid hbr
      clear hbr
      go_wp2
      go_ret
      exact ⟨by rw [← HF.out]; rfl, HBR.out⟩

def rtextOf (s : Bool) (js : List Item) : List UInt8 := if s then textOf js else []

theorem rtext_any (s : Bool) (lv : Value) (js : List Item) (base : Nat) (w : World) (h : RAt base w lv js) (hnil : js = [] → lv = .slice none 0 0) (hn : js.length ≤ 1000) (hok : ∀ i ∈ js, i.ok) :
    Calls Tryd.prog 12 #[.agg #[.bool s, lv]] w (TextP (rtextOf s js) w) := by
  cases s with
  | false => exact rtext_none lv h.slice w
  | true =>
    by_cases hj : js = []
    · subst hj
      rw [hnil rfl]
      exact rtext_alien w
    · have hp : 0 < js.length := by cases js with | nil => exact absurd rfl hj | cons a l => simp
      obtain ⟨g, cap, rfl, hg, _, hcells⟩ := h.cells hp
      exact rtext_some js g cap w hg hp hn hok hcells
end Go.Proofs.YtciebpijdgdcjaaDoor
