/-
  fault.Text: over any error of the program, all its links' texts with a colon and a space between, to the byte.
  Conditions: start-up's two variables are as laid; at most 1000 links; each link's numbers are ints, its part is at most 1000000 bytes long.
-/
import Derived.Test.YtnddojngbolbfaaDoorText
import Derived.Test.YtnddojngbolbfaaDoorHas
namespace Go.Proofs.YtnddojngbolbfaaDoor
open Go.RowKit Go.Extern.Stop Go.Stop Go.Extern

def Item.ok (i : Item) : Prop := I64 i.code ∧ I64 i.pos ∧ i.part.size ≤ 1000000

def T (i : Item) : Value := .string ⟨(linkText i).toArray⟩
def rowAt (is : List Item) (k : Nat) : List Value := (is.map T).take k ++ List.replicate (is.length - k) (.string ⟨#[]⟩)

theorem rowAt_zero (is : List Item) : rowAt is 0 = List.replicate is.length (.string ⟨#[]⟩) := by simp [rowAt]
theorem rowAt_all (is : List Item) : rowAt is is.length = is.map T := by simp [rowAt, List.take_of_length_le]
theorem rowAt_set (is : List Item) (k : Nat) (hk : k < is.length) : (rowAt is k).set k (T is[k]) = rowAt is (k + 1) := by
  unfold rowAt
  have h1 : is.length - k = (is.length - (k + 1)) + 1 := by omega
  rw [List.set_append_right _ _ (by simp; omega)]
  have h2 : k - (List.take k (is.map T)).length = 0 := by simp; omega
  rw [h2, h1, List.replicate_succ, List.set_cons_zero, List.take_succ_eq_append_getElem (by simpa using hk)]
  simp

theorem rowAt_get (is : List Item) (k : Nat) (hk : k < is.length) : (rowAt is k)[k]? = some (.string ⟨#[]⟩) := by
  unfold rowAt
  rw [List.getElem?_append_right (by simp; omega)]
  have h1 : is.length - k = (is.length - (k + 1)) + 1 := by omega
  have h2 : k - (List.take k (is.map T)).length = 0 := by simp; omega
  rw [h2, h1, List.replicate_succ]
  rfl

theorem linkText_len (i : Item) (h : i.ok) : (linkText i).length ≤ 1000100 := by
  have h1 := itoa_len _ h.1
  have h2 := itoa_len _ h.2.1
  have h3 : i.part.data.toList.length ≤ 1000000 := by rw [Array.length_toList]; exact h.2.2
  unfold linkText
  simp only [List.length_append, List.length_cons, List.length_nil]
  omega

def FtextOf (is : List Item) : List UInt8 := match is with | [] => [97, 108, 105, 101, 110] | i :: is => Lib.join ((i :: is).map linkText) [58, 32]

def TextP (bytes : List UInt8) (w : World) (e : Ending) (w' : World) : Prop := e = .returned (.string ⟨bytes.toArray⟩) ∧ Below w.heap.size w w'

set_option maxHeartbeats 1000000 in
theorem text_nil (w : World) : Calls Tryd.prog 28 #[.nilIface] w (TextP [] w) := by
  have hE := fun W => run_eql_nil_nil (P := Tryd.prog) W 27 (by kernel_rfl)
  go_enter Tryd.func28, Tryd.ntmps28
  go_wp2
  go_ret
  exact ⟨rfl, Below.refl _ _⟩

theorem links_slice {w : World} {base : Nat} {v : Value} {is : List Item} (h : w.ownsRow base 51 3 v is.length (linksCells is)) : ∃ a cap, v = .slice a is.length cap := by
  rcases h.2 with ⟨h1, h2⟩ | ⟨g, cap, _, h1, _⟩
  · exact ⟨none, 0, by rw [h1, h2]⟩
  · exact ⟨_, _, h1⟩

set_option maxRecDepth 100000 in
set_option maxHeartbeats 2000000 in
theorem text_alien (v : Value) (w : World) (hch : Chain w.heap.size w v []) (hv : v ≠ .nilIface) (hg : EType w) :
    Calls Tryd.prog 28 #[v] w (TextP (FtextOf []) w) := by
  have HL := Lib.hid (links_any v [] w hch hg (by simp))
  obtain ⟨t, x, rfl⟩ := hch.iface hv
  have hE := fun W => run_eql_held_nil (P := Tryd.prog) W 27 t x (by kernel_rfl)
  clear hch hv hg
  go_enter Tryd.func28, Tryd.ntmps28
  go_wp2_with (go_at_call 19; refine HL.out.mono ?_; rintro e w1 ⟨sv, rfl, hb, hown⟩; obtain ⟨a, cap, rfl⟩ := links_slice hown)
  go_ret
  exact ⟨rfl, hb⟩

theorem Tryd.infoStr : (Tryd.prog.info? 9).map (fun i => (i.zero, i.size, i.bytes)) = some (some (.string ⟨#[]⟩), 1, 16) := by kernel_rfl

theorem made_row (n : Nat) : (madeCells #[Value.string ⟨#[]⟩] n).toList = List.replicate n (.string ⟨#[]⟩) := by
  have e : ∀ m, (Array.range m).toList.map (fun _ => Value.string ⟨#[]⟩) = List.replicate m (.string ⟨#[]⟩) := by
    intro m
    rw [List.map_const']
    simp
  simp only [madeCells, Array.toList_map]
  rw [← e n]
  apply List.map_congr_left
  intro k _
  simp [Nat.mod_one]

theorem join_len : ∀ (is : List Item) (n : Nat), is.length ≤ n → (∀ i ∈ is, (linkText i).length ≤ 1000100) → (Lib.join (is.map linkText) [58, 32]).length ≤ n * 1000102 := by
  intro is
  induction is with
  | nil => intro n _ _; simp [Lib.join, List.intercalate]
  | cons i is ih =>
    intro n hn h
    have h1 := h i (by simp)
    cases n with
    | zero => simp at hn
    | succ n =>
      have h2 := ih n (by simpa using hn) (fun j hj => h j (by simp [hj]))
      cases is with
      | nil => simp [Lib.join, List.intercalate]; omega
      | cons k is =>
        have e : Lib.join ((i :: k :: is).map linkText) [58, 32] = linkText i ++ [58, 32] ++ Lib.join ((k :: is).map linkText) [58, 32] := by simp [Lib.join, List.intercalate]
        rw [e]
        simp only [List.length_append, List.length_cons, List.length_nil]
        omega

theorem data_mk (l : List UInt8) : (ByteArray.mk l.toArray).data.toList = l := by simp

theorem join_texts {is : List Item} (hn : is.length ≤ 1000) (hpos : 0 < is.length) (hok : ∀ i ∈ is, i.ok) {base : Nat} (g : Nat) (w : World) (hrow : w.ownsRow base 9 1 (.slice (some ⟨g, 0, none⟩) is.length is.length) is.length (is.map T)) :
    Calls Tryd.prog 43 #[.slice (some ⟨g, 0, none⟩) is.length is.length, .string ⟨#[58, 32]⟩] w (TextP (FtextOf is) w) := by
  have hl := join_len is 1000 hn (fun i hi => linkText_len i (hok i hi))
  have e1 : (is.map fun i => (⟨(linkText i).toArray⟩ : ByteArray)).map (fun x => x.data.toList) = is.map linkText := by
    rw [List.map_map]
    apply List.map_congr_left
    intro i _
    simp
  have hgl : g < w.heap.size := by
    rcases hrow.2 with ⟨h1, _⟩ | ⟨g', cap', cur, h1, _, hh, _⟩
    · cases h1
    · cases h1; exact (Array.getElem?_eq_some_iff.1 hh).1
  have HJ := Tryd.strings_Join g 0 is.length (is.map fun i => ⟨(linkText i).toArray⟩) ⟨#[58, 32]⟩ w (by
    intro j x hx
    rw [List.getElem?_map] at hx
    obtain ⟨i, hi, rfl⟩ := Option.map_eq_some_iff.1 hx
    have hj : j < is.length := (List.getElem?_eq_some_iff.1 hi).1
    rw [Nat.zero_add, hrow.cellAt j (by omega), List.getElem?_map, hi]
    rfl) hgl (by rw [List.length_map]; omega) (by rw [List.length_map]; omega) (by rw [e1, show (ByteArray.mk #[58, 32]).data.toList = [58, 32] from rfl]; omega)
  rw [List.length_map, e1, show (ByteArray.mk #[58, 32]).data.toList = [58, 32] from rfl] at HJ
  refine HJ.mono fun e w' h => ⟨?_, h.2⟩
  rw [h.1]
  cases is with
  | nil => simp at hpos
  | cons i is => rfl

/-- What the loop of Text keeps. -/
def TextRel (w : World) (g : Nat) (is : List Item) (lv : Value) (x : Value) (wr : World) : Prop :=
  ∃ k : Nat, k ≤ is.length ∧ x = .int .i64 k ∧ Below w.heap.size w wr ∧ w.heap.size ≤ g ∧ wr.ownsRow w.heap.size 9 1 (.slice (some ⟨g, 0, none⟩) is.length is.length) is.length (rowAt is k) ∧ LinksAt g wr lv is

set_option maxRecDepth 100000 in
set_option maxHeartbeats 2000000 in
theorem text_some (v : Value) (is : List Item) (w : World) (hch : Chain w.heap.size w v is) (hv : v ≠ .nilIface) (hg : EType w) (ht : Tab w) (hz : 2 < w.heap.size) (hn : is.length ≤ 1000) (hpos : 0 < is.length) (hok : ∀ i ∈ is, i.ok) :
    Calls Tryd.prog 28 #[v] w (TextP (FtextOf is) w) := by
  have HL := Lib.hid (links_any v is w hch hg (by omega))
  obtain ⟨t, x, rfl⟩ := hch.iface hv
  have hE := fun W => run_eql_held_nil (P := Tryd.prog) W 27 t x (by kernel_rfl)
  obtain ⟨i0, hi, hz0, hz1, hz2⟩ := info_parts Tryd.infoStr
  have HT := Lib.hid ht
  have HK := Lib.hid hok
  have hn0 : ((is.length : Int) == 0) = false := beq_eq_false_iff_ne.2 (by omega)
  clear hch hv hg ht hok
  go_enter Tryd.func28, Tryd.ntmps28
  go_wp2_with (first
    | (go_at_call 19; refine HL.out.mono ?_; rintro e w1 ⟨sv, rfl, hb, hown⟩; obtain ⟨a, cap, rfl⟩ := links_slice hown; have HLA := Lib.hid (linksAt_of_own hown); have HB := Lib.hid hb; have HO := Lib.hid hown; clear hb hown)
    | (at_make; refine wpList_make_full _ rfl _ _ 84 rfl w.heap.size 9 i0 (.string ⟨#[]⟩) 1 Tryd.underlying84 hi hz0 hz1 .i64 .i64 _ _ is.length rfl rfl rfl rfl (by rw [hz2]; omega) (by unfold maxLen; omega) ?hbs ?_))
  case hbs => exact HB.out.size
  intro w2 hrow hgrow
  rw [made_row, ← rowAt_zero] at hrow
  have hb2 : Below w1.heap.size w1 w2 := Fbelow_grown hgrow (Nat.le_refl _) (fun k e => by cases e)
  have HR : TextRel w w1.heap.size is (.slice a is.length cap) (.int .i64 0) w2 := ⟨0, Nat.zero_le _, rfl, HB.out.trans (hb2.mono HB.out.size), HB.out.size, hrow, HLA.out.kept hb2⟩
  have HRR := Lib.hid HR
  clear hrow hgrow hb2 HR
  go_wp2_with fail
  go_loopw [19] (fun x wr => TextRel w w1.heap.size is (.slice a is.length cap) x wr) (fun x _ => is.length - (intOf x).toNat)
  case atStart => exact HRR.out
  case round =>
    obtain ⟨k, hk, rfl, hbr, hgs, hrow, hla⟩ := hrel
    by_cases hlt : k < is.length
    · rcases hla with ⟨h1, h2⟩ | ⟨lg, lcap, hlv, hlg, hcells⟩
      · rw [h2] at hlt; simp at hlt
      · cases hlv
        obtain ⟨q0, q1, q2⟩ := hcells k hlt
        have hab : Below wr.heap.size wr (wr.alloc (.cells #[.int .i64 is[k].code, .string is[k].part, .int .i64 is[k].pos] 51)) := (Below.refl _ _).alloc (Nat.le_refl _) _
        have hw1 := HB.out.size
        have htw : Tab (wr.alloc (.cells #[.int .i64 is[k].code, .string is[k].part, .int .i64 is[k].pos] 51)) := HT.out.kept hz (hbr.trans (hab.mono hbr.size))
        have hik := HK.out is[k] (List.getElem_mem hlt)
        have HLT := Lib.hid (link_text is[k] hik.1 hik.2.1 (by have := hik.2.2; omega) _ htw (by have := hbr.size; simp; omega))
        have hgw : w1.heap.size < wr.heap.size := by
          rcases hrow.2 with ⟨h1, _⟩ | ⟨g', cap', cur, h1, _, hh, _⟩
          · cases h1
          · cases h1; exact (Array.getElem?_eq_some_iff.1 hh).1
        have HF := Lib.hid (show ∀ w3, Below (wr.alloc (.cells #[.int .i64 is[k].code, .string is[k].part, .int .i64 is[k].pos] 51)).heap.size (wr.alloc (.cells #[.int .i64 is[k].code, .string is[k].part, .int .i64 is[k].pos] 51)) w3 →
            w3.cell? ⟨w1.heap.size, k, none⟩ = some (.string ⟨#[]⟩) ∧ w3.frozen? ⟨w1.heap.size, k, none⟩ = false ∧ Hid (TextRel w w1.heap.size is (.slice (some ⟨lg, 0, none⟩) is.length cap) (.int .i64 ((k + 1 : Nat) : Int)) (w3.setCell ⟨w1.heap.size, k, none⟩ (.string ⟨(linkText is[k]).toArray⟩))) from by
          intro w3 hb3
          have hb4 : Below wr.heap.size wr w3 := hab.trans (hb3.mono hab.size)
          have hrow3 := ownsRow_below hrow hb4
          have c1 := hrow3.cellAt k (by omega)
          rw [rowAt_get is k hlt] at c1
          obtain ⟨hst, hgr⟩ := hrow3.stored k (T is[k])
          rw [rowAt_set is k hlt] at hst
          exact ⟨c1, hrow3.frozenAt k, k + 1, by omega, rfl, (hbr.trans (hb4.mono hbr.size)).setCell (p := ⟨w1.heap.size, k, none⟩) hw1 _, hgs, hst,
            LinksAt.kept (.inr ⟨lg, cap, rfl, hlg, hcells⟩) ((hb4.mono (Nat.le_of_lt hgw)).setCell (p := ⟨w1.heap.size, k, none⟩) (Nat.le_refl _) _)⟩)
        clear hab htw hik hrow hbr hcells
        go_wp2_with (go_at_call 42; refine HLT.out.mono ?_; rintro e w3 ⟨rfl, hb3⟩; obtain ⟨c1, f1, HR3⟩ := HF.out w3 hb3)
        go_roundw
        case rel => simpa using HR3.out
        case measure => simp [intOf]; omega
    · obtain rfl : k = is.length := by omega
      have HJ := Lib.hid (join_texts hn hpos HK.out w1.heap.size wr (rowAt_all is ▸ hrow))
      have HBR := Lib.hid hbr
      clear hrow hbr hla
      go_wp2_with (go_at_call 43; refine HJ.out.mono ?_; rintro e w3 ⟨rfl, hb3⟩)
      go_ret
      exact ⟨rfl, HBR.out.trans (hb3.mono HBR.out.size)⟩
end Go.Proofs.YtnddojngbolbfaaDoor
