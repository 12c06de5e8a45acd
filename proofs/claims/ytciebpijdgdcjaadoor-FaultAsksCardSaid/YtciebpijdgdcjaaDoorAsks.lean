/-
  The law FaultAsks: it returns true for every code, part, place and other code, and writes nothing that was there.
  Conditions: start-up's two variables are as laid; the numbers are ints.
-/
import Derived.Test.YtciebpijdgdcjaaDoorAwake
import Derived.Test.YtciebpijdgdcjaaDoorRefNum
namespace Go.Proofs.YtciebpijdgdcjaaDoor
open Go.RowKit Go.Extern.Stop Go.Stop Go.Extern

theorem Tryd.buildLink3 (a b : Int) (p : ByteArray) (w : World) : (Instr.build 39 #[(0, .int .i64 a), (1, .string p), (2, .int .i64 b)]).run Tryd.prog w = .ok (.agg #[.int .i64 a, .string p, .int .i64 b]) w := by kernel_rfl

set_option maxRecDepth 100000 in
set_option maxHeartbeats 1000000 in
theorem asks_long (code pos other : Int) (part : ByteArray) (w : World) (he : Env w) (hl : 200 < part.size) :
    Calls Tryd.prog 6 #[.int .i64 code, .string part, .int .i64 pos, .int .i64 other] w (Ans true w) := by
  have HA := Lib.hid (awake_any w he)
  clear he
  go_enter Tryd.func6, Tryd.ntmps6
  go_wp2_with (go_at_call 13; refine HA.out.mono ?_; rintro e w' ⟨rfl, hb⟩)
  go_ret
  exact ⟨rfl, hb⟩

/-- The three Faults of the law, in their blocks. -/
structure Three (code pos other : Int) (part : ByteArray) (n : Nat) (W : World) : Prop where
  f : W.heap[n]? = some (.cells #[.int .i64 code, .string part, .int .i64 pos, .nilIface] 56 (0, 0))
  g : W.heap[n + 1]? = some (.cells #[.int .i64 other, .string ⟨#[]⟩, .int .i64 0, .nilIface] 56 (0, 0))
  h : W.heap[n + 2]? = some (.cells #[.int .i64 code, .string ⟨#[]⟩, .int .i64 0, .iface 54 (.pointer (some ⟨n, 0, none⟩))] 56 (0, 0))
  e : Env W

theorem Three.later {code pos other : Int} {part : ByteArray} {n : Nat} {W W' : World} (t : Three code pos other part n W) (hb : Below W.heap.size W W') : Three code pos other part n W' :=
  ⟨(hb.block _ (Array.getElem?_eq_some_iff.1 t.f).1).trans t.f, (hb.block _ (Array.getElem?_eq_some_iff.1 t.g).1).trans t.g, (hb.block _ (Array.getElem?_eq_some_iff.1 t.h).1).trans t.h, t.e.later hb⟩

theorem Three.isG {code pos other : Int} {part : ByteArray} {n : Nat} {W : World} (t : Three code pos other part n W) :
    Calls Tryd.prog 22 #[.pointer (some ⟨n, 0, none⟩), .iface 54 (.pointer (some ⟨n + 1, 0, none⟩))] W (Ans (code == other) W) := by
  refine (faultIs_target ⟨n, code, part, pos⟩ .nilIface (n + 1) other W t.f t.g).mono fun e w' h => ⟨?_, h.2⟩
  rw [h.1, Bool.beq_comm]

theorem Three.isH {code pos other : Int} {part : ByteArray} {n : Nat} {W : World} (t : Three code pos other part n W) :
    Calls Tryd.prog 22 #[.pointer (some ⟨n, 0, none⟩), .iface 54 (.pointer (some ⟨n + 2, 0, none⟩))] W (Ans false W) :=
  faultIs_inner n (n + 2) _ _ W (cell_of_block4 t.h).2.2.2

theorem Three.isF {code pos other : Int} {part : ByteArray} {n : Nat} {W : World} (t : Three code pos other part n W) :
    Calls Tryd.prog 22 #[.pointer (some ⟨n, 0, none⟩), .iface 54 (.pointer (some ⟨n, 0, none⟩))] W (Ans (part.toList == [] && pos == 0) W) := by
  obtain ⟨c0, c1, c2, c3⟩ := cell_of_block4 t.f
  refine (faultIs_link n n code code pos part W c0 c0 c1 c2 c3).mono fun e w' h => ⟨?_, h.2⟩
  rw [h.1]
  simp

def asksI (n : Nat) (code pos : Int) (part : ByteArray) : Item := ⟨n, code, part, pos⟩

theorem Three.error {code pos other : Int} {part : ByteArray} {n : Nat} {W : World} (t : Three code pos other part n W) (hok : (asksI n code pos part).ok) :
    Calls Tryd.prog 20 #[.pointer (some ⟨n, 0, none⟩)] W (TextPost (asksI n code pos part) W) := by
  obtain ⟨c0, c1, c2, c3⟩ := cell_of_block4 t.f
  exact error_some n (asksI n code pos part) hok W t.e.t t.e.z c0 c1 c2

theorem three_made (code pos other : Int) (part : ByteArray) (w : World) (he : Env w) :
    Three code pos other part w.heap.size (((w.alloc (.cells #[.int .i64 code, .string part, .int .i64 pos, .nilIface] 56)).alloc (.cells #[.int .i64 other, .string ⟨#[]⟩, .int .i64 0, .nilIface] 56)).alloc (.cells #[.int .i64 code, .string ⟨#[]⟩, .int .i64 0, .iface 54 (.pointer (some ⟨w.heap.size, 0, none⟩))] 56)) ∧
    Below w.heap.size w (((w.alloc (.cells #[.int .i64 code, .string part, .int .i64 pos, .nilIface] 56)).alloc (.cells #[.int .i64 other, .string ⟨#[]⟩, .int .i64 0, .nilIface] 56)).alloc (.cells #[.int .i64 code, .string ⟨#[]⟩, .int .i64 0, .iface 54 (.pointer (some ⟨w.heap.size, 0, none⟩))] 56)) := by
  have hb : Below w.heap.size w (((w.alloc (.cells #[.int .i64 code, .string part, .int .i64 pos, .nilIface] 56)).alloc (.cells #[.int .i64 other, .string ⟨#[]⟩, .int .i64 0, .nilIface] 56)).alloc (.cells #[.int .i64 code, .string ⟨#[]⟩, .int .i64 0, .iface 54 (.pointer (some ⟨w.heap.size, 0, none⟩))] 56)) :=
    (((Below.refl _ _).alloc (Nat.le_refl _) _).alloc (by simp) _).alloc (by simp; omega) _
  refine ⟨⟨?_, ?_, ?_, he.later hb⟩, hb⟩
  · rw [Below.heap_alloc _ _ _ (by simp; omega), Below.heap_alloc _ _ _ (by simp)]
    exact World.alloc_heap_new w _
  · rw [Below.heap_alloc _ _ _ (by simp)]
    have := World.alloc_heap_new (w.alloc (.cells #[.int .i64 code, .string part, .int .i64 pos, .nilIface] 56)) (.cells #[.int .i64 other, .string ⟨#[]⟩, .int .i64 0, .nilIface] 56)
    rwa [World.size_alloc] at this
  · have := World.alloc_heap_new ((w.alloc (.cells #[.int .i64 code, .string part, .int .i64 pos, .nilIface] 56)).alloc (.cells #[.int .i64 other, .string ⟨#[]⟩, .int .i64 0, .nilIface] 56)) (.cells #[.int .i64 code, .string ⟨#[]⟩, .int .i64 0, .iface 54 (.pointer (some ⟨w.heap.size, 0, none⟩))] 56)
    rwa [World.size_alloc, World.size_alloc] at this


set_option maxRecDepth 100000 in
set_option maxHeartbeats 4000000 in
theorem asks_empty (code pos other : Int) (w : World) (he : Env w) (hc : I64 code) (hp : I64 pos) :
    Calls Tryd.prog 6 #[.int .i64 code, .string ⟨#[]⟩, .int .i64 pos, .int .i64 other] w (Ans true w) := by
  obtain ⟨ht, hb0⟩ := three_made code pos other ⟨#[]⟩ w he
  have HB0 := Lib.hid hb0
  have HT := Lib.hid ht
  have hok : (asksI w.heap.size code pos ⟨#[]⟩).ok := ⟨hc, hp, by show (⟨#[]⟩ : ByteArray).size ≤ _; decide⟩
  have HK := Lib.hid hok
  have HE := Lib.hid (ht.error hok)
  have HF := Lib.hid (show ∀ W', Three code pos other ⟨#[]⟩ w.heap.size W' → Calls Tryd.prog 22 #[.pointer (some ⟨w.heap.size, 0, none⟩), .iface 54 (.pointer (some ⟨w.heap.size, 0, none⟩))] W' (Ans (pos == 0) W') from
    fun W' t => t.isF.mono fun e w' h => ⟨by rw [h.1, show (ByteArray.toList ⟨#[]⟩ == []) = true from by decide +kernel, Bool.true_and], h.2⟩)
  have hE := fun W T x => run_eql_held_nil (P := Tryd.prog) W 24 T x (by kernel_rfl)
  have hN := fun W T x => run_neq_held_nil (P := Tryd.prog) W 24 T x (by kernel_rfl)
  have hE0 := fun W => run_eql_nil_nil (P := Tryd.prog) W 24 (by kernel_rfl)
  have hb1 := Tryd.buildLink
  have hb2 := Tryd.buildCode
  clear he hc hp hb0 ht hok
  go_enter Tryd.func6, Tryd.ntmps6
  go_wp2_with fail
  refine HE.out.mono ?_
  rintro e w1 ⟨rfl, h1⟩
  have T1 := HT.out.later h1
  have HO := Lib.hid (one_any (asksI w.heap.size code pos ⟨#[]⟩) HK.out.1 HK.out.2.1 (by have := HK.out.2.2; omega) w1)
  have B1 := Lib.hid (HB0.out.trans (h1.mono HB0.out.size))
  clear h1
  go_wp2_with fail
  refine HO.out.mono ?_
  rintro e w2 ⟨rfl, h2⟩
  have T2 := T1.later h2
  have B2 := Lib.hid (B1.out.trans (h2.mono B1.out.size))
  clear h2 T1
  go_wp2_with fail
  refine T2.isG.mono ?_
  rintro e w3 ⟨rfl, h3⟩
  have T3 := T2.later h3
  have B3 := Lib.hid (B2.out.trans (h3.mono B2.out.size))
  clear h3 T2
  go_wp2_with fail
  refine T3.isH.mono ?_
  rintro e w4 ⟨rfl, h4⟩
  have T4 := T3.later h4
  have B4 := Lib.hid (B3.out.trans (h4.mono B3.out.size))
  clear h4 T3
  go_wp2_with fail
  refine (faultIs_alien w.heap.size _ w4).mono ?_
  rintro e w5 ⟨rfl, h5⟩
  have T5 := T4.later h5
  have B5 := Lib.hid (B4.out.trans (h5.mono B4.out.size))
  clear h5 T4
  go_wp2_with fail
  refine (HF.out w5 T5).mono ?_
  rintro e w6 ⟨rfl, h6⟩
  have T6 := T5.later h6
  have B6 := Lib.hid (B5.out.trans (h6.mono B5.out.size))
  clear h6 T5
  go_wp2_with fail
  refine (unwrap_some w.heap.size .nilIface w6 (cell_of_block4 T6.f).2.2.2).mono ?_
  rintro e w7 ⟨rfl, rfl⟩
  go_wp2_with fail
  refine (unwrap_some (w.heap.size + 2) _ w6 (cell_of_block4 T6.h).2.2.2).mono ?_
  rintro e w7 ⟨rfl, rfl⟩
  go_wp2_with fail
  refine (error_nil w6).mono ?_
  rintro e w7 ⟨rfl, rfl⟩
  go_wp2_with fail
  refine (unwrap_nil w6).mono ?_
  rintro e w7 ⟨rfl, rfl⟩
  go_wp2_with fail
  refine (faultIs_nil _ w6).mono ?_
  rintro e w7 ⟨rfl, h7⟩
  have T7 := T6.later h7
  have B7 := Lib.hid (B6.out.trans (h7.mono B6.out.size))
  clear h7 T6
  go_wp2_with fail
  refine (awake_any w7 T7.e).mono ?_
  rintro e w8 ⟨rfl, h8⟩
  clear T7
  go_wp2
  go_ret
  exact ⟨rfl, B7.out.trans (h8.mono B7.out.size)⟩

set_option maxRecDepth 100000 in
set_option maxHeartbeats 4000000 in
theorem asks_named (code pos other : Int) (part : ByteArray) (w : World) (he : Env w) (hc : I64 code) (hp : I64 pos) (hl : part.size ≤ 200) (hpe : part.toList.isEmpty = false) :
    Calls Tryd.prog 6 #[.int .i64 code, .string part, .int .i64 pos, .int .i64 other] w (Ans true w) := by
  obtain ⟨ht, hb0⟩ := three_made code pos other part w he
  have HB0 := Lib.hid hb0
  have HT := Lib.hid ht
  have hok : (asksI w.heap.size code pos part).ok := ⟨hc, hp, by show (part : ByteArray).size ≤ _; omega⟩
  have HK := Lib.hid hok
  have HE := Lib.hid (ht.error hok)
  have HF := Lib.hid (show ∀ W', Three code pos other part w.heap.size W' → Calls Tryd.prog 22 #[.pointer (some ⟨w.heap.size, 0, none⟩), .iface 54 (.pointer (some ⟨w.heap.size, 0, none⟩))] W' (Ans false W') from
    fun W' t => t.isF.mono fun e w' h => ⟨by rw [h.1, show (part.toList == []) = false from by cases hx : part.toList with | nil => rw [hx] at hpe; cases hpe | cons a l => rfl, Bool.false_and], h.2⟩)
  have hE := fun W T x => run_eql_held_nil (P := Tryd.prog) W 24 T x (by kernel_rfl)
  have hN := fun W T x => run_neq_held_nil (P := Tryd.prog) W 24 T x (by kernel_rfl)
  have hE0 := fun W => run_eql_nil_nil (P := Tryd.prog) W 24 (by kernel_rfl)
  have hb1 := Tryd.buildLink
  have hb2 := Tryd.buildCode
  clear he hc hp hb0 ht hok
  go_enter Tryd.func6, Tryd.ntmps6
  go_wp2_with fail
  refine HE.out.mono ?_
  rintro e w1 ⟨rfl, h1⟩
  have T1 := HT.out.later h1
  have HO := Lib.hid (one_any (asksI w.heap.size code pos part) HK.out.1 HK.out.2.1 (by have := HK.out.2.2; omega) w1)
  have B1 := Lib.hid (HB0.out.trans (h1.mono HB0.out.size))
  clear h1
  go_wp2_with fail
  refine HO.out.mono ?_
  rintro e w2 ⟨rfl, h2⟩
  have T2 := T1.later h2
  have B2 := Lib.hid (B1.out.trans (h2.mono B1.out.size))
  clear h2 T1
  go_wp2_with fail
  refine T2.isG.mono ?_
  rintro e w3 ⟨rfl, h3⟩
  have T3 := T2.later h3
  have B3 := Lib.hid (B2.out.trans (h3.mono B2.out.size))
  clear h3 T2
  go_wp2_with fail
  refine T3.isH.mono ?_
  rintro e w4 ⟨rfl, h4⟩
  have T4 := T3.later h4
  have B4 := Lib.hid (B3.out.trans (h4.mono B3.out.size))
  clear h4 T3
  go_wp2_with fail
  refine (faultIs_alien w.heap.size _ w4).mono ?_
  rintro e w5 ⟨rfl, h5⟩
  have T5 := T4.later h5
  have B5 := Lib.hid (B4.out.trans (h5.mono B4.out.size))
  clear h5 T4
  go_wp2_with fail
  refine (HF.out w5 T5).mono ?_
  rintro e w6 ⟨rfl, h6⟩
  have T6 := T5.later h6
  have B6 := Lib.hid (B5.out.trans (h6.mono B5.out.size))
  clear h6 T5
  go_wp2_with fail
  refine (unwrap_some w.heap.size .nilIface w6 (cell_of_block4 T6.f).2.2.2).mono ?_
  rintro e w7 ⟨rfl, rfl⟩
  go_wp2_with fail
  refine (unwrap_some (w.heap.size + 2) _ w6 (cell_of_block4 T6.h).2.2.2).mono ?_
  rintro e w7 ⟨rfl, rfl⟩
  go_wp2_with fail
  refine (error_nil w6).mono ?_
  rintro e w7 ⟨rfl, rfl⟩
  go_wp2_with fail
  refine (unwrap_nil w6).mono ?_
  rintro e w7 ⟨rfl, rfl⟩
  go_wp2_with fail
  refine (faultIs_nil _ w6).mono ?_
  rintro e w7 ⟨rfl, h7⟩
  have T7 := T6.later h7
  have B7 := Lib.hid (B6.out.trans (h7.mono B6.out.size))
  clear h7 T6
  go_wp2_with fail
  refine (awake_any w7 T7.e).mono ?_
  rintro e w8 ⟨rfl, h8⟩
  clear T7
  go_wp2
  go_ret
  exact ⟨rfl, B7.out.trans (h8.mono B7.out.size)⟩

end Go.Proofs.YtciebpijdgdcjaaDoor
