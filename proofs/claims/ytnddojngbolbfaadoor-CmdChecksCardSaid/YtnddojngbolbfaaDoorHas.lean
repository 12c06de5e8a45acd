/-
  errors.Is at a Fault with a code alone, and fault.Has: they tell whether one of an error's links has the code.
  Conditions: the variable errors.errorType holds its handle; at most 1048576 links.
-/
import Derived.Test.YtnddojngbolbfaaDoorIsLoop
import Derived.Test.YtnddojngbolbfaaDoorBare
namespace Go.Proofs.YtnddojngbolbfaaDoor
open Go.RowKit Go.Extern.Stop Go.Stop Go.Extern

theorem Tryd.comparableF (w : World) : ((ReflectliteType.method fun t => do Rtype.noPackHeld "Comparable" t; (fun a : TypeInfo => Value.bool a.comparable) <$> typeInfo t) #[.agg #[.pointer (some ⟨5, 80, none⟩)]]).run Tryd.prog w = .ok (.bool true) w := by kernel_rfl

set_option maxRecDepth 100000 in
set_option maxHeartbeats 2000000 in
theorem is_some (v : Value) (is : List Item) (tb : Nat) (c : Int) (w : World) (hch : Chain tb w v is) (hv : v ≠ .nilIface) (ht : Target w tb c) (htb : tb < w.heap.size) :
    Calls Tryd.prog 44 #[v, .iface 80 (.pointer (some ⟨tb, 0, none⟩))] w (Ans (hasCode c is) w) := by
  have HL := Lib.hid (is_loop v is tb c w hch hv ht htb)
  have h31 := @run_callFunc_extern Tryd.prog 59 _ ReflectliteType.typeOf Tryd.func59 (by kernel_rfl) (by kernel_rfl) (by kernel_rfl) (by kernel_rfl)
  have h89 := @run_callFunc_extern Tryd.prog 113 _ (ReflectliteType.method fun t => do Rtype.noPackHeld "Comparable" t; pure (.bool (← typeInfo t).comparable)) Tryd.func113 (by kernel_rfl) (by kernel_rfl) (by kernel_rfl) (by kernel_rfl)
  have tO := Tryd.typeOfF
  have mC := Tryd.methodComparable
  have cF := Tryd.comparableF
  obtain ⟨T, x, rfl⟩ := hch.iface hv
  have hE := fun W => run_eql_held_nil (P := Tryd.prog) W 27 T x (by kernel_rfl)
  have hE2 := fun W y => run_eql_held_nil (P := Tryd.prog) W 27 80 y (by kernel_rfl)
  clear hch hv ht htb
  go_enter Tryd.func44, Tryd.ntmps44
  go_wp2_with (go_at_call 60; refine HL.out.mono ?_; rintro e w2 ⟨rfl, hb⟩)
  go_ret
  exact ⟨rfl, hb⟩

set_option maxHeartbeats 1000000 in
theorem is_nil (x : Value) (w : World) :
    Calls Tryd.prog 44 #[.nilIface, .iface 80 x] w (Ans false w) := by
  have hE := fun W => run_eql_nil_nil (P := Tryd.prog) W 27 (by kernel_rfl)
  have hE2 := fun W y => run_eql_iface_nil_left (P := Tryd.prog) W 80 y Tryd.underlying27
  go_enter Tryd.func44, Tryd.ntmps44
  go_wp2
  go_ret
  exact ⟨rfl, Below.refl _ _⟩

theorem is_any (v : Value) (is : List Item) (tb : Nat) (c : Int) (w : World) (hch : Chain tb w v is) (ht : Target w tb c) (htb : tb < w.heap.size) :
    Calls Tryd.prog 44 #[v, .iface 80 (.pointer (some ⟨tb, 0, none⟩))] w (Ans (hasCode c is) w) := by
  by_cases hv : v = .nilIface
  · subst hv
    cases hch
    exact is_nil _ w
  · exact is_some v is tb c w hch hv ht htb

theorem linksCells_at : ∀ (l : List Item) (j : Nat) (hj : j < l.length), (linksCells l)[j * 3]? = some (.int .i64 (l[j]'hj).code) ∧ (linksCells l)[j * 3 + 1]? = some (.string (l[j]'hj).part) ∧ (linksCells l)[j * 3 + 2]? = some (.int .i64 (l[j]'hj).pos) := by
  intro l
  induction l with
  | nil => intro j hj; simp at hj
  | cons i l ih =>
    intro j hj
    cases j with
    | zero => simp [linksCells, linkCells]
    | succ j =>
      have := ih j (by simpa using hj)
      have e : linksCells (i :: l) = .int .i64 i.code :: .string i.part :: .int .i64 i.pos :: linksCells l := by simp [linksCells, linkCells]
      rw [e]
      have a1 : (j + 1) * 3 = j * 3 + 1 + 1 + 1 := by omega
      rw [a1]
      simpa using this

theorem linksAt_of_own {w : World} {base : Nat} {v : Value} {is : List Item} (h : w.ownsRow base 51 3 v is.length (linksCells is)) : LinksAt w.heap.size w v is := by
  rcases h.2 with ⟨h1, h2⟩ | ⟨g, cap, cur, hv, hb, hh, hn, hm, hsz, htk⟩
  · exact .inl ⟨h1, List.length_eq_zero_iff.1 h2⟩
  · refine .inr ⟨g, cap, hv, (Array.getElem?_eq_some_iff.1 hh).1, fun j hj => ?_⟩
    have key : ∀ k, k < 3 → w.cell? ⟨g, j * 3 + k, none⟩ = (linksCells is)[j * 3 + k]? := by
      intro k hk
      have e1 : w.cell? ⟨g, j * 3 + k, none⟩ = cur[j * 3 + k]? := by simp [World.cell?, hh]
      rw [e1, ← htk, List.getElem?_take]
      rw [if_pos (by omega)]
      simp
    obtain ⟨a, b, c⟩ := linksCells_at is j hj
    refine ⟨?_, ?_, ?_⟩
    · have := key 0 (by omega); rw [Nat.add_zero] at this; rw [this]; exact a
    · rw [key 1 (by omega)]; exact b
    · rw [key 2 (by omega)]; exact c

theorem hasCode_keys (c : Int) {is js : List Item} (h : js.map Item.key = is.map Item.key) : hasCode c js = hasCode c is := by
  have e : ∀ l : List Item, hasCode c l = (l.map Item.key).any (fun k => c == k.1) := by intro l; simp [hasCode, List.any_map, Item.key, Function.comp_def]
  rw [e, e, h]

theorem bare_any (a : Option Addr) (len cap : Nat) (is : List Item) (hlen : is.length ≤ 1048576) (w : World) (hS : LinksAt w.heap.size w (.slice a len cap) is) :
    Calls Tryd.prog 45 #[.slice a len cap] w (BarePost is w) :=
  callsIn_wide.1 (bare_in Fence.wide 3 trivial trivial trivial rfl (Nat.le_refl _) a len cap is hlen w hS)

theorem Tryd.buildCode (a : Int) (w : World) : (Instr.build 83 #[(0, .agg #[.int .i64 a, .string ⟨#[]⟩, .int .i64 0])]).run Tryd.prog w = .ok (.agg #[.int .i64 a, .string ⟨#[]⟩, .int .i64 0, .nilIface]) w := by kernel_rfl

set_option maxHeartbeats 1000000 in
theorem has_zero_nil (w : World) : Calls Tryd.prog 29 #[.nilIface, .int .i64 0] w (Ans true w) := by
  have hE := fun W => run_eql_nil_nil (P := Tryd.prog) W 27 (by kernel_rfl)
  go_enter Tryd.func29, Tryd.ntmps29
  go_wp2
  go_ret
  exact ⟨rfl, Below.refl _ _⟩

set_option maxHeartbeats 1000000 in
theorem has_zero_some (T : TypeId) (x : Value) (w : World) : Calls Tryd.prog 29 #[.iface T x, .int .i64 0] w (Ans false w) := by
  have hE := fun W => run_eql_held_nil (P := Tryd.prog) W 27 T x (by kernel_rfl)
  go_enter Tryd.func29, Tryd.ntmps29
  go_wp2
  go_ret
  exact ⟨rfl, Below.refl _ _⟩

set_option maxRecDepth 100000 in
set_option maxHeartbeats 2000000 in
theorem has_code (v : Value) (is : List Item) (c : Int) (w : World) (hch : Chain w.heap.size w v is) (hg : EType w) (hn : is.length ≤ 1048576) (hc : (c == 0) = false) :
    Calls Tryd.prog 29 #[v, .int .i64 c] w (Ans (hasCode c is) w) := by
  have HL := Lib.hid (links_any v is w hch hg hn)
  have HN := Lib.hid hn
  have hb1 := Tryd.buildLink
  have hb2 := Tryd.buildCode
  clear hn hch hg
  go_enter Tryd.func29, Tryd.ntmps29
  go_wp2_with (go_at_call 19; refine HL.out.mono ?_; rintro e w1 ⟨sv, rfl, hb, hown⟩)
  have hS := linksAt_of_own hown
  have hsv : ∃ a len cap, sv = .slice a len cap := by
    rcases hown.2 with ⟨h1, _⟩ | ⟨g, cap, _, h1, _⟩
    · exact ⟨_, _, _, h1⟩
    · exact ⟨_, _, _, h1⟩
  obtain ⟨a, len, cap, rfl⟩ := hsv
  have HB := Lib.hid (bare_any a len cap is HN.out w1 hS)
  have Hb := Lib.hid hb
  clear hS hown hb
  go_wp2_with (go_at_call 45; refine HB.out.mono ?_; rintro e w2 ⟨v2, js, rfl, hb3, hch2, hk⟩)
  have hb4 : Below w2.heap.size w2 (w2.alloc (.cells #[.int .i64 c, .string ⟨#[]⟩, .int .i64 0, .nilIface] 83)) := (Below.refl _ _).alloc (Nat.le_refl _) _
  have HI := Lib.hid (is_any v2 js w2.heap.size c (w2.alloc (.cells #[.int .i64 c, .string ⟨#[]⟩, .int .i64 0, .nilIface] 83)) (hch2.kept (Nat.le_refl _) hb4) (World.alloc_heap_new _ _) (by simp))
  have HK := Lib.hid (hasCode_keys c hk)
  have HB3 := Lib.hid (Hb.out.trans (hb3.mono Hb.out.size))
  have HB4 := Lib.hid (HB3.out.trans (hb4.mono HB3.out.size))
  clear hb4 hch2 hk hb3
  go_wp2_with (go_at_call 44; refine HI.out.mono ?_; rintro e w3 ⟨rfl, hb5⟩)
  go_ret
  exact ⟨by rw [← HK.out]; rfl, HB4.out.trans (hb5.mono HB4.out.size)⟩
end Go.Proofs.YtnddojngbolbfaaDoor
