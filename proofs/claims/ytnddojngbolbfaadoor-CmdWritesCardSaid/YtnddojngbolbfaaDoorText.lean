/-
  (fault.Link).text and (*fault.Fault).Error: the link as a text, to the byte.
  Conditions: strconv's table of powers holds what start-up lays; the numbers are ints.
-/
import Derived.Test.YtnddojngbolbfaaDoorMake
import Derived.Test.YtnddojngbolbfaaDoorShelf
import Derived.Deep.RegionHeld3
import Derived.WalkSmall
namespace Go.Proofs.YtnddojngbolbfaaDoor
open Go.RowKit Go.Extern.Stop Go.Stop Go.Extern

/-- strconv's table as start-up leaves it. -/
def Tab (w : World) : Prop := Lib.TabIs Tryd.prog w "internal/strconv.uint64pow10" IntKind.u64 Lib.pow10Tab

theorem Tryd.tabAt : Tryd.prog.globalNamed "internal/strconv.uint64pow10" = some 2 := by kernel_rfl

theorem Tab.kept {w w' : World} (h : Tab w) {B : Nat} (hB : 2 < B) (hb : Below B w w') : Tab w' :=
  var?_below hb Tryd.tabAt hB h

def I64 (n : Int) : Prop := -9223372036854775808 ≤ n ∧ n ≤ 9223372036854775807

theorem below_grow (w : World) (os : Array Obj) : Below w.heap.size w (Sort.grow w os) :=
  ⟨rfl, rfl, rfl, by simp [Sort.grow], fun k hk => by simp [Sort.grow, Array.getElem?_append, hk]⟩

theorem itoa_any (n : Int) (h : I64 n) (w : World) (ht : Tab w) :
    Calls Tryd.prog 55 #[.int .i64 n] w fun e w' => e = .returned (.string ⟨(Lib.itoa n).toArray⟩) ∧ Below w.heap.size w w' :=
  (Tryd.strconv_Itoa n h.1 h.2 w ht).mono fun e w' ⟨he, k, os, hw⟩ => ⟨he, by
    subst hw
    exact (below_drewN (Below.refl w.heap.size w) k).trans (below_grow (w.drewN k) os)⟩

/-- A link's text. -/
def linkText (i : Item) : List UInt8 := i.part.data.toList ++ [32] ++ Lib.itoa i.pos ++ [32, 35] ++ Lib.itoa i.code

def TextPost (i : Item) (w : World) (e : Ending) (w' : World) : Prop := e = .returned (.string ⟨(linkText i).toArray⟩) ∧ Below w.heap.size w w'

theorem decDigits_len : ∀ (k u : Nat), u < 10 ^ (k + 1) → (Lib.decDigits u).length ≤ k + 1 := by
  intro k
  induction k with
  | zero => intro u h; rw [Lib.decDigits_one (by simpa using h)]; simp
  | succ k ih =>
    intro u h
    rw [Lib.decDigits]
    split
    · simp
    · have := ih (u / 10) (by rw [Nat.div_lt_iff_lt_mul (by omega)]; rw [Nat.pow_succ] at h; omega)
      simp; omega

theorem itoa_len (n : Int) (h : I64 n) : (Lib.itoa n).length ≤ 20 := by
  have hb : n.natAbs < 10 ^ 19 := by have := h.1; have := h.2; omega
  unfold Lib.itoa
  split
  · have := decDigits_len 18 n.natAbs hb
    simp; omega
  · have := decDigits_len 18 n.toNat (by omega)
    omega

theorem size_mk (l : List UInt8) : (ByteArray.mk l.toArray).size = l.length := by simp [ByteArray.size]
theorem mk_data (s : ByteArray) : ByteArray.mk s.data.toList.toArray = s := by cases s; simp

/-- The four sums of a link's text. -/
theorem link_sums (i : Item) (hc : I64 i.code) (hp : I64 i.pos) (hs : i.part.size ≤ 140737488355328) : ∃ s1 s2 s3 : ByteArray,
    (∀ W, (Op.stringOp .add i.part ⟨#[32]⟩).run Tryd.prog W = .ok (.string s1) W) ∧ (∀ W, (Op.stringOp .add s1 ⟨(Lib.itoa i.pos).toArray⟩).run Tryd.prog W = .ok (.string s2) W) ∧
    (∀ W, (Op.stringOp .add s2 ⟨#[32, 35]⟩).run Tryd.prog W = .ok (.string s3) W) ∧ (∀ W, (Op.stringOp .add s3 ⟨(Lib.itoa i.code).toArray⟩).run Tryd.prog W = .ok (.string ⟨(linkText i).toArray⟩) W) := by
  have l1 := itoa_len _ hc
  have l2 := itoa_len _ hp
  have hs' : i.part.data.toList.length ≤ 140737488355328 := by rw [Array.length_toList]; exact hs
  obtain ⟨l, hl⟩ : ∃ l, l = i.part.data.toList := ⟨_, rfl⟩
  have e0 : i.part = ⟨l.toArray⟩ := by rw [hl, mk_data]
  rw [← hl] at hs'
  refine ⟨⟨(l ++ [32]).toArray⟩, ⟨(l ++ [32] ++ Lib.itoa i.pos).toArray⟩, ⟨(l ++ [32] ++ Lib.itoa i.pos ++ [32, 35]).toArray⟩, fun W => ?_, fun W => ?_, fun W => ?_, fun W => ?_⟩
  · rw [e0, show (ByteArray.mk #[32]) = ByteArray.mk [32].toArray from rfl, run_string_add_sum W _ _ (by rw [size_mk, size_mk]; simp; omega), ByteArray.mk_append_mk]
  · rw [run_string_add_sum W _ _ (by rw [size_mk, size_mk]; simp; omega), ByteArray.mk_append_mk]
  · rw [show (ByteArray.mk #[32, 35]) = ByteArray.mk [32, 35].toArray from rfl, run_string_add_sum W _ _ (by rw [size_mk, size_mk]; simp; omega), ByteArray.mk_append_mk]
  · rw [run_string_add_sum W _ _ (by rw [size_mk, size_mk]; simp; omega), ByteArray.mk_append_mk, linkText, ← hl]

/-- What the calls in a link's text leave as it was. -/
theorem keep_text {n : Nat} {x0 x1 x2 : Value} {w w1 w2 : World} (h : w1.cell? ⟨n, 0, none⟩ = some x0 ∧ w1.cell? ⟨n, 1, none⟩ = some x1 ∧ w1.cell? ⟨n, 2, none⟩ = some x2 ∧ Hid (Tab w1 ∧ Below w.heap.size w w1 ∧ n < w1.heap.size ∧ 2 < w.heap.size)) (hb : Below w1.heap.size w1 w2) :
    w2.cell? ⟨n, 0, none⟩ = some x0 ∧ w2.cell? ⟨n, 1, none⟩ = some x1 ∧ w2.cell? ⟨n, 2, none⟩ = some x2 ∧ Hid (Tab w2 ∧ Below w.heap.size w w2 ∧ n < w2.heap.size ∧ 2 < w.heap.size) := by
  obtain ⟨h0, h1, h2, ht, hB, hn, hz⟩ := h
  refine ⟨?_, ?_, ?_, ht.kept (Nat.lt_of_lt_of_le hz hB.size) hb, hB.trans (hb.mono hB.size), Nat.lt_of_lt_of_le hn hb.size, hz⟩
  · rw [hb.cell (p := ⟨n, 0, none⟩) hn]; exact h0
  · rw [hb.cell (p := ⟨n, 1, none⟩) hn]; exact h1
  · rw [hb.cell (p := ⟨n, 2, none⟩) hn]; exact h2

theorem tab_of {n : Nat} {x0 x1 x2 : Value} {w w1 : World} (h : w1.cell? ⟨n, 0, none⟩ = some x0 ∧ w1.cell? ⟨n, 1, none⟩ = some x1 ∧ w1.cell? ⟨n, 2, none⟩ = some x2 ∧ Hid (Tab w1 ∧ Below w.heap.size w w1 ∧ n < w1.heap.size ∧ 2 < w.heap.size)) : Tab w1 := h.2.2.2.1
theorem below_of {n : Nat} {x0 x1 x2 : Value} {w w1 : World} (h : w1.cell? ⟨n, 0, none⟩ = some x0 ∧ w1.cell? ⟨n, 1, none⟩ = some x1 ∧ w1.cell? ⟨n, 2, none⟩ = some x2 ∧ Hid (Tab w1 ∧ Below w.heap.size w w1 ∧ n < w1.heap.size ∧ 2 < w.heap.size)) : Below w.heap.size w w1 := h.2.2.2.2.1

set_option maxRecDepth 100000 in
set_option maxHeartbeats 2000000 in
theorem link_text (i : Item) (hc : I64 i.code) (hp : I64 i.pos) (hs : i.part.size ≤ 140737488355328) (w : World) (ht : Tab w) (hz : 2 < w.heap.size) :
    Calls Tryd.prog 42 #[.agg #[.int .i64 i.code, .string i.part, .int .i64 i.pos]] w (TextPost i w) := by
  obtain ⟨s1, s2, s3, a1, a2, a3, a4⟩ := link_sums i hc hp hs
  have HC := Lib.hid hc
  have HP := Lib.hid hp
  have hb1 : Below w.heap.size w (w.alloc (.cells #[.int .i64 i.code, .string i.part, .int .i64 i.pos] 51)).drew := ((Below.refl _ _).alloc (Nat.le_refl _) _).drew
  have HS : (w.alloc (.cells #[.int .i64 i.code, .string i.part, .int .i64 i.pos] 51)).drew.cell? ⟨w.heap.size, 0, none⟩ = some (.int .i64 i.code) ∧ (w.alloc (.cells #[.int .i64 i.code, .string i.part, .int .i64 i.pos] 51)).drew.cell? ⟨w.heap.size, 1, none⟩ = some (.string i.part) ∧ (w.alloc (.cells #[.int .i64 i.code, .string i.part, .int .i64 i.pos] 51)).drew.cell? ⟨w.heap.size, 2, none⟩ = some (.int .i64 i.pos) ∧ Hid (Tab (w.alloc (.cells #[.int .i64 i.code, .string i.part, .int .i64 i.pos] 51)).drew ∧ Below w.heap.size w (w.alloc (.cells #[.int .i64 i.code, .string i.part, .int .i64 i.pos] 51)).drew ∧ w.heap.size < (w.alloc (.cells #[.int .i64 i.code, .string i.part, .int .i64 i.pos] 51)).drew.heap.size ∧ 2 < w.heap.size) :=
    ⟨by simp, by simp, by simp, ht.kept hz hb1, hb1, by simp, hz⟩
  have HHS := Lib.hid HS
  clear hc hp ht hb1 HS hs
  go_enter Tryd.func42, Tryd.ntmps42
  go_wp2
  go_region_held3 (fun w' => w'.cell? ⟨w.heap.size, 0, none⟩ = some (.int .i64 i.code) ∧ w'.cell? ⟨w.heap.size, 1, none⟩ = some (.string i.part) ∧ w'.cell? ⟨w.heap.size, 2, none⟩ = some (.int .i64 i.pos) ∧ Hid (Tab w' ∧ Below w.heap.size w w' ∧ w.heap.size < w'.heap.size ∧ 2 < w.heap.size))
    (first | exact HHS.out | exact keep_text (by assumption) (by assumption))
    (first | (go_at_call 55; refine (itoa_any _ ?hi _ ?ht).mono ?_; (case hi => first | exact HP.out | exact HC.out); (case ht => exact tab_of (by assumption)); rintro e w' ⟨rfl, hb⟩))
  go_wp2
  go_ret
  exact ⟨rfl, below_of (by assumption)⟩
end Go.Proofs.YtnddojngbolbfaaDoor
