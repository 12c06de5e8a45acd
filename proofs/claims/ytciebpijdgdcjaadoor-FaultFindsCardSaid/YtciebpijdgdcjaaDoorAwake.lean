/-
  The page's example, run: New, Wrap, Text, Code, Has, Links give what the page says; and (*Fault).Error.
  Conditions: start-up's two variables are as laid.
-/
import Derived.Test.YtciebpijdgdcjaaDoorTextAll
namespace Go.Proofs.YtciebpijdgdcjaaDoor
open Go.RowKit Go.Extern.Stop Go.Stop Go.Extern

set_option maxRecDepth 100000 in
set_option maxHeartbeats 2000000 in
theorem error_some (a : Nat) (i : Item) (hok : i.ok) (w : World) (ht : Tab w) (hz : 2 < w.heap.size)
    (h0 : w.cell? ⟨a, 0, none⟩ = some (.int .i64 i.code)) (h1 : w.cell? ⟨a, 1, none⟩ = some (.string i.part)) (h2 : w.cell? ⟨a, 2, none⟩ = some (.int .i64 i.pos)) :
    Calls Tryd.prog 20 #[.pointer (some ⟨a, 0, none⟩)] w (TextPost i w) := by
  have HL := Lib.hid (link_text i hok.1 hok.2.1 (by have := hok.2.2; omega) w ht hz)
  clear hok ht
  go_enter Tryd.func20, Tryd.ntmps20
  go_wp2_with (go_at_call 28; refine HL.out.mono ?_; rintro e w' ⟨rfl, hb⟩)
  go_ret
  exact ⟨rfl, hb⟩

set_option maxHeartbeats 1000000 in
theorem error_nil (w : World) :
    Calls Tryd.prog 20 #[.pointer none] w fun e w' => e = .returned (.string ⟨#[]⟩) ∧ w = w' := by
  go_enter Tryd.func20, Tryd.ntmps20
  go_wp2
  go_ret
  exact ⟨rfl, rfl⟩

/-- Start-up's two variables. -/
structure Env (w : World) : Prop where
  e : EType w
  t : Tab w
  z : 2 < w.heap.size

theorem Env.later {w w' : World} (h : Env w) (hb : Below w.heap.size w w') : Env w' := ⟨h.e.later hb, h.t.kept h.z hb, Nat.lt_of_lt_of_le h.z hb.size⟩

theorem Chain.later {w w' : World} {v : Value} {is : List Item} (c : Chain w.heap.size w v is) (hb : Below w.heap.size w w') : Chain w'.heap.size w' v is := (c.kept (Nat.le_refl _) hb).up hb.size

def cmdI (b : Nat) : Item := ⟨b, 3, ⟨#[99, 109, 100]⟩, 2⟩
def scriptI (b : Nat) : Item := ⟨b, 3, ⟨#[115, 99, 114, 105, 112, 116]⟩, 7⟩

theorem example_text (b c : Nat) : textOf [scriptI b, cmdI c] = [115, 99, 114, 105, 112, 116, 32, 55, 32, 35, 51, 58, 32, 99, 109, 100, 32, 50, 32, 35, 51] := by
  have e7 : Lib.itoa 7 = [55] := by rw [Lib.itoa, if_neg (by omega), Lib.decDigits_one (by decide)]; rfl
  have e3 : Lib.itoa 3 = [51] := by rw [Lib.itoa, if_neg (by omega), Lib.decDigits_one (by decide)]; rfl
  have e2 : Lib.itoa 2 = [50] := by rw [Lib.itoa, if_neg (by omega), Lib.decDigits_one (by decide)]; rfl
  simp [textOf, linkText, scriptI, cmdI, Lib.join, List.intercalate, e7, e3, e2]

set_option maxRecDepth 100000 in
set_option maxHeartbeats 4000000 in
theorem awake_any (w : World) (he : Env w) : Calls Tryd.prog 13 #[] w (Ans true w) := by
  have HN := Lib.hid (new_some 3 ⟨#[99, 109, 100]⟩ 2 w (by decide))
  have HE := Lib.hid he
  clear he
  go_enter Tryd.func13, Tryd.ntmps13
  go_wp2_with fail
  refine HN.out.mono ?_
  rintro e w1 ⟨b1, rfl, hb1, hch1⟩
  have HW := Lib.hid (wrap_some _ _ ⟨#[115, 99, 114, 105, 112, 116]⟩ 7 w1 hch1 (by simp) (HE.out.later hb1).e)
  have HB1 := Lib.hid hb1
  clear hb1 hch1
  go_wp2_with fail
  refine HW.out.mono ?_
  rintro e w2 ⟨b2, rfl, hb2, hch2⟩
  have hch2' : Chain w2.heap.size w2 (.iface 54 (.pointer (some ⟨b2, 0, none⟩))) [scriptI b2, cmdI b1] := hch2
  have HB2 := Lib.hid (HB1.out.trans (hb2.mono HB1.out.size))
  have he2 := HE.out.later HB2.out
  have hok : ∀ i ∈ [scriptI b2, cmdI b1], i.ok := by
    intro i hi
    simp at hi
    rcases hi with rfl | rfl <;> simp [Item.ok, scriptI, cmdI, I64, ByteArray.size]
  have HT := Lib.hid (text_some _ _ w2 hch2' (by simp) he2.e he2.t he2.z (by simp) (by simp) hok)
  rw [example_text] at HT
  have HC := Lib.hid (show ∀ w', Below w2.heap.size w2 w' → Calls Tryd.prog 9 #[.iface 54 (.pointer (some ⟨b2, 0, none⟩))] w' (fun e w'' => e = .returned (.int .i64 3) ∧ Below w'.heap.size w' w'') from
    fun w' hb => (code_any _ _ w' (hch2'.later hb) (he2.later hb).e).mono fun e w'' h => ⟨h.1, h.2⟩)
  have HH3 := Lib.hid (show ∀ w', Below w2.heap.size w2 w' → Calls Tryd.prog 14 #[.iface 54 (.pointer (some ⟨b2, 0, none⟩)), .int .i64 3] w' (Ans true w') from
    fun w' hb => (has_code _ _ 3 w' (hch2'.later hb) (he2.later hb).e (by simp) (by decide)).mono fun e w'' h => ⟨h.1, h.2⟩)
  have HH10 := Lib.hid (show ∀ w', Below w2.heap.size w2 w' → Calls Tryd.prog 14 #[.iface 54 (.pointer (some ⟨b2, 0, none⟩)), .int .i64 10] w' (Ans false w') from
    fun w' hb => (has_code _ _ 10 w' (hch2'.later hb) (he2.later hb).e (by simp) (by decide)).mono fun e w'' h => ⟨h.1, h.2⟩)
  have HL := Lib.hid (fun w' (hb : Below w2.heap.size w2 w') => links_any _ _ w' (hch2'.later hb) (he2.later hb).e (by simp))
  clear hb2 hch2 hch2' he2 hok
  go_wp2_with fail
  refine HT.out.mono ?_
  rintro e w3 ⟨rfl, hb3⟩
  go_wp2_with fail
  refine (HC.out w3 hb3).mono ?_
  rintro e w4 ⟨rfl, hb4⟩
  have hb24 := hb3.trans (hb4.mono hb3.size)
  go_wp2_with fail
  refine (HH3.out w4 hb24).mono ?_
  rintro e w5 ⟨rfl, hb5⟩
  have hb25 := hb24.trans (hb5.mono hb24.size)
  go_wp2_with fail
  refine (HH10.out w5 hb25).mono ?_
  rintro e w6 ⟨rfl, hb6⟩
  have hb26 := hb25.trans (hb6.mono hb25.size)
  go_wp2_with fail
  refine (HL.out w6 hb26).mono ?_
  rintro e w7 ⟨v7, rfl, hb7, hown⟩
  obtain ⟨a, cap, rfl⟩ := links_slice hown
  have hb27 := hb26.trans (hb7.mono hb26.size)
  simp only [List.length_cons, List.length_nil, Nat.reduceAdd]
  go_wp2
  go_ret
  exact ⟨rfl, HB2.out.trans (hb27.mono HB2.out.size)⟩
end Go.Proofs.YtciebpijdgdcjaaDoor
