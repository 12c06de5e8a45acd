/-
  The document's Decode.
  Conditions: no more than 100000 bytes.
-/
import Derived.Test.YtkkaekcjinopkaaDecS
import Derived.Test.YtkkaekcjinopkaaRight
import Derived.Test.YtkkaekcjinopkaaRefEncode
set_option linter.unusedVariables false
namespace Go.Proofs.Ytkkaekcjinopkaa
open Go.RowKit

theorem encR_byte (r : Rep) : ∀ x ∈ encR r, x < 256 := by
  intro x hx
  obtain ⟨n, _, hn⟩ := List.mem_flatMap.1 hx
  exact enc_bytes n x hn
/-- i numbers read with the limit 255: they, what is left, and the first error. -/
def rdB (bs : List Nat) : Nat → List Nat × List Nat × Int
  | 0 => ([], bs, 0)
  | k + 1 => ((rdB bs k).1 ++ [(numT (rdB bs k).2.1 (rdB bs k).2.2 255).1], (numT (rdB bs k).2.1 (rdB bs k).2.2 255).2)
theorem rdB_four (bs : List Nat) : rdB bs 4 = ([(rd1 255 bs).1, (rd2 255 255 bs).1, (rd3 255 255 255 bs).1, (rd4 255 255 255 255 bs).1], (rd4 255 255 255 255 bs).2) := rfl
theorem rdB_length (bs : List Nat) : ∀ k, (rdB bs k).1.length = k
  | 0 => rfl
  | k + 1 => by
    unfold rdB
    rw [List.length_append, rdB_length bs k]
    rfl
theorem rdB_len (bs : List Nat) : ∀ k, (rdB bs k).2.1.length ≤ bs.length
  | 0 => Nat.le_refl _
  | k + 1 => Nat.le_trans (numT_len _ _ _) (rdB_len bs k)

theorem refNum_all (B : Nat) (A : Option Addr) (n c : Nat) (bs : List Nat) (e : Int) (most : Nat) (w : World) (hB : B ≤ w.heap.size) (hvi : BytesIn B w (.slice A n c) bs) (hl : bs.length ≤ 100000) (hm : most < 18446744073709551616) :
    Calls Try.prog 26 #[.agg #[.slice A n c, .int .i64 e], .int .u64 most] w (RefP B (numT bs e most) w) := by
  by_cases h : e = 0
  · subst h
    exact refRead_any B _ bs most w hB hvi hl hm
  · exact refFailed_any B A n c bs e most w hB hvi h

/-- What the document's Decode holds: the answer (n), the reader (g). -/
structure RefS (n g : Nat) (w : World) (bs : List Nat) (e : Int) (W : World) : Prop where
  z : RepAt W n zeroR (.slice none 0 0)
  rd : ∃ A l c, W.heap[g]? = some (.cells #[.slice A l c, .int .i64 e] 54 (0, 0)) ∧ BytesIn n W (.slice A l c) bs
  below : Below n w W
theorem RefS.size {n g : Nat} {w : World} {bs : List Nat} {e : Int} {W : World} (h : RefS n g w bs e W) : g < W.heap.size := by
  obtain ⟨A, l, c, h1, _⟩ := h.rd
  exact heap_lt h1
theorem RefS.stay {n g base : Nat} {w W W' : World} {bs : List Nat} {e : Int} (h : RefS n g w bs e W) (hn : n < g) (hg : g < base) (hb : Below base W W') : RefS n g w bs e W' := by
  obtain ⟨A, l, c, h1, h2⟩ := h.rd
  exact ⟨h.z.stay hb (by omega), ⟨A, l, c, (hb.block g hg).trans h1, h2.keep (hb.mono (by omega))⟩, ⟨hb.os.trans h.below.os, hb.tape.trans h.below.tape, hb.output.trans h.below.output, Nat.le_trans h.below.size hb.size, fun k hk => (hb.block k (by omega)).trans (h.below.block k hk)⟩⟩
theorem RefS.next {n g : Nat} {w W : World} {bs bs' : List Nat} {e e' : Int} (h : RefS n g w bs e W) (hn : n < g) {A : Option Addr} {l c : Nat} (hv : BytesIn n W (.slice A l c) bs') :
    RefS n g w bs' e' ((W.setCell ⟨g, 0, none⟩ (.slice A l c)).setCell ⟨g, 1, none⟩ (.int .i64 e')) := by
  obtain ⟨A0, l0, c0, h1, _⟩ := h.rd
  refine ⟨(h.z.else_ (by omega) _).else_ (by omega) _, ⟨A, l, c, two_set h1 _ _, hv.keep ?_⟩, below_two h.below (by omega) _ _⟩
  exact ((Below.refl n W).setCell (p := ⟨g, 0, none⟩) (by show n ≤ g; omega) _).setCell (p := ⟨g, 1, none⟩) (by show n ≤ g; omega) _

/-- And the reply so far (rb), the count (in b5). -/
structure RefO (n g b5 rb : Nat) : Prop where
  a : n < g
  b : g < b5
  c : b5 < rb
structure RefT (n g b5 rb cn : Nat) (w : World) (bs : List Nat) (e : Int) (r : Rep) (v : Value) (W : World) : Prop where
  s : RefS n g w bs e W
  c3 : W.cell? ⟨b5, 3, none⟩ = some (.int .u64 cn)
  rep : RepAt W rb r v
theorem RefT.stay {n g b5 rb cn B : Nat} {w W W' : World} {bs : List Nat} {e : Int} {r : Rep} {v : Value} (h : RefT n g b5 rb cn w bs e r v W) (o : RefO n g b5 rb) (hb : Below B W W') (hB : rb < B) : RefT n g b5 rb cn w bs e r v W' :=
  ⟨h.s.stay o.a (by have := o.b; have := o.c; omega) hb, (hb.cell (p := ⟨b5, 3, none⟩) (by show b5 < B; have := o.c; omega)).trans h.c3, h.rep.stay hb hB⟩
theorem RefT.keep {n g b5 rb cn : Nat} {w W W' : World} {bs : List Nat} {e : Int} {r : Rep} {v : Value} (h : RefT n g b5 rb cn w bs e r v W) (o : RefO n g b5 rb) (hb : Below W.heap.size W W') : RefT n g b5 rb cn w bs e r v W' := h.stay o hb h.rep.lt
theorem cell_else {W : World} {g b j k : Nat} {u x : Value} (h : W.cell? ⟨b, j, none⟩ = some x) (hne : b ≠ g) : (W.setCell ⟨g, k, none⟩ u).cell? ⟨b, j, none⟩ = some x := by
  have e : (W.setCell ⟨g, k, none⟩ u).heap[b]? = W.heap[b]? := Below.heap_setCell _ _ _ _ hne
  rw [← h]
  simp [World.cell?, e]
theorem RefT.next {n g b5 rb cn : Nat} {w W : World} {bs bs' : List Nat} {e e' : Int} {r : Rep} {v : Value} (h : RefT n g b5 rb cn w bs e r v W) (o : RefO n g b5 rb) {A : Option Addr} {l c : Nat} (hv : BytesIn n W (.slice A l c) bs') :
    RefT n g b5 rb cn w bs' e' r v ((W.setCell ⟨g, 0, none⟩ (.slice A l c)).setCell ⟨g, 1, none⟩ (.int .i64 e')) :=
  ⟨h.s.next o.a hv, cell_else (cell_else h.c3 (by have := o.b; omega)) (by have := o.b; omega), (h.rep.else_ (by have := o.b; have := o.c; omega) _).else_ (by have := o.b; have := o.c; omega) _⟩
theorem RefT.set {n g b5 rb cn : Nat} {w W : World} {bs : List Nat} {e : Int} {r : Rep} {v : Value} (h : RefT n g b5 rb cn w bs e r v W) (o : RefO n g b5 rb) (u : Value) (ns : List Int) :
    RefT n g b5 rb cn w bs e ⟨r.e, r.p, r.m, ns⟩ u (W.setCell ⟨rb, 3, none⟩ u) := by
  obtain ⟨A, l, c, h1, h2⟩ := h.s.rd
  refine ⟨⟨h.s.z.else_ (by have := o.a; have := o.b; have := o.c; omega) _, ⟨A, l, c, (Below.heap_setCell _ _ _ _ (by have := o.b; have := o.c; show g ≠ rb; omega)).trans h1, h2.keep ((Below.refl n W).setCell (p := ⟨rb, 3, none⟩) (by show n ≤ rb; have := o.a; have := o.b; have := o.c; omega) _)⟩, h.s.below.setCell (p := ⟨rb, 3, none⟩) (by show n ≤ rb; have := o.a; have := o.b; have := o.c; omega) _⟩, cell_else h.c3 (by have := o.c; omega), h.rep.set3 u ns⟩

set_option maxRecDepth 100000 in
set_option maxHeartbeats 1000000 in
theorem refEnd12_any (A : Option Addr) (c : Nat) (bs : List Nat) (e : Int) (w : World) : Calls Try.prog 27 #[.agg #[.slice A bs.length c, .int .i64 e]] w (RetB (.int .i64 (endI bs e)) w) := by
  have HB := Lib.hid (below_new (W := w) (.cells #[.slice A bs.length c, .int .i64 e] 54))
  obtain ⟨r0, r1, _, _⟩ := two_cells (World.alloc_heap_new w (.cells #[.slice A bs.length c, .int .i64 e] 54))
  go_enter Try.func27, Try.ntmps27
  go_upto_region 1 with fail
  generalize w.alloc (.cells #[.slice A bs.length c, .int .i64 e] 54) = w1 at *
  have HE := Lib.hid (show endI bs e = if e = 0 ∧ 0 < bs.length then 3 else e from rfl)
  generalize endI bs e = R at *
  generalize bs.length = n at *
  by_cases h0 : e = 0
  · subst h0
    by_cases hp : 0 < n
    · have hpz : (0 : Int) < (n : Int) := by omega
      have HR := Lib.hid (show (3 : Int) = R by rw [HE.out, if_pos ⟨rfl, hp⟩])
      clear HE hp
      go_wp2_with fail
      go_ret
      exact ⟨ret_int HR.out, HB.out⟩
    · have hpz : ¬ (0 : Int) < (n : Int) := by omega
      have HR := Lib.hid (show (0 : Int) = R by rw [HE.out, if_neg (fun h => hp h.2)])
      clear HE hp
      go_wp2_with fail
      go_ret
      exact ⟨ret_int HR.out, HB.out⟩
  · have h0' : (e == 0) = false := by simpa using h0
    have HR := Lib.hid (show e = R by rw [HE.out, if_neg (fun h => h0 h.1)])
    clear HE h0
    go_wp2_with fail
    go_ret
    exact ⟨ret_int HR.out, HB.out⟩

/-- What the document's Decode answers. -/
def RefDecP (bs : List Nat) (w : World) (e : Ending) (w' : World) : Prop :=
  ∃ x ok v, e = .returned (.tuple #[.agg (repA x v), .bool ok]) ∧ IsDec bs x ok ∧ IntsAt w' v x.ns ∧ Below w.heap.size w w'

set_option maxRecDepth 100000 in
set_option maxHeartbeats 4000000 in
theorem refDecode_any (v : Value) (bs : List Nat) (w : World) (hv : BytesAt w v bs) (hl : bs.length ≤ 100000) : Calls Try.prog 14 #[v] w (RefDecP bs w) := by
  obtain ⟨A, c, hvf⟩ : ∃ A c, v = .slice A bs.length c := by obtain ⟨A, c, h, _⟩ := hv; exact ⟨A, c, h⟩
  subst hvf
  have hb1 := below_new (W := w) (.cells #[.int .i64 0, .bool false, .int .i64 0, .slice none 0 0] 25)
  have hz1 : RepAt (w.alloc (.cells #[.int .i64 0, .bool false, .int .i64 0, .slice none 0 0] 25)) w.heap.size zeroR (.slice none 0 0) := RepAt.new w zeroR (.slice none 0 0)
  have hs1 := World.size_alloc w (.cells #[.int .i64 0, .bool false, .int .i64 0, .slice none 0 0] 25)
  generalize hwa : w.alloc (.cells #[.int .i64 0, .bool false, .int .i64 0, .slice none 0 0] 25) = wa at *
  have hb2 := below_new (W := wa) (.cells #[.slice A bs.length c, .int .i64 0] 54)
  have hr2 : (wa.alloc (.cells #[.slice A bs.length c, .int .i64 0] 54)).heap[w.heap.size + 1]? = some (.cells #[.slice A bs.length c, .int .i64 0] 54 (0, 0)) := by
    have := World.alloc_heap_new wa (.cells #[.slice A bs.length c, .int .i64 0] 54)
    rwa [hs1] at this
  have hs2 := World.size_alloc wa (.cells #[.slice A bs.length c, .int .i64 0] 54)
  rw [hs1] at hs2
  generalize hwb : wa.alloc (.cells #[.slice A bs.length c, .int .i64 0] 54) = wb at *
  have hb3 := below_new (W := wb) (.cells #[] 40)
  have hs3 := World.size_alloc wb (.cells #[] 40)
  rw [hs2] at hs3
  have ho3 : OwnK .u64 40 (wb.alloc (.cells #[] 40)) (w.heap.size + 2) (.slice (some ⟨w.heap.size + 1 + 1, 0, none⟩) 0 0) [] := by
    have := World.ownsRow_lit (base := w.heap.size + 2) (e := 40) (size := 1) wb #[] 0 (by omega) (by unfold maxLen; omega) rfl
    rw [hs2] at this
    exact this
  generalize hwc : wb.alloc (.cells #[] 40) = wc at *
  obtain ⟨n, hn⟩ : ∃ n, w.heap.size = n := ⟨_, rfl⟩
  obtain ⟨g, hg⟩ : ∃ g, n + 1 = g := ⟨_, rfl⟩
  obtain ⟨base, hbase⟩ : ∃ base, n + 2 = base := ⟨_, rfl⟩
  have hbwc : Below n w wc := by rw [← hn]; exact hb1.trans ((hb2.trans (hb3.mono hb2.size)).mono hb1.size)
  have HS1 := Lib.hid (show RefS n g w bs 0 wc from
    ⟨by rw [← hn]; exact (hz1.keep hb2).keep hb3, ⟨A, bs.length, c, by rw [← hg, ← hn]; exact (hb3.block _ (by omega)).trans hr2, by rw [← hn]; exact hv.within.keep (by rw [hn]; exact hbwc)⟩, hbwc⟩)
  have HVI := Lib.hid (show BytesIn n w (.slice A bs.length c) bs by rw [← hn]; exact hv.within)
  have HVB := Lib.hid hv.bytes
  have HO1 := Lib.hid (show OwnK .u64 40 wc base (.slice (some ⟨w.heap.size + 1 + 1, 0, none⟩) 0 0) [] by rw [← hbase, ← hn]; exact ho3)
  have HWA := Lib.hid hwa
  have HWB := Lib.hid hwb
  have HWC := Lib.hid hwc
  have HNN := Lib.hid hn
  have HNG := Lib.hid (show n < g by omega)
  have HGB := Lib.hid (show g < base by omega)
  have HBE := Lib.hid (show base = g + 1 by omega)
  have HN1 := Lib.hid (show w.heap.size + 1 = g by omega)
  clear hb1 hz1 hs1 hb2 hr2 hs2 hb3 hs3 ho3 hbwc hv hwa hwb hwc hn hg hbase
  go_enter Try.func14, Try.ntmps14
  go_upto_region 3 with fail
  rw [HWA.out, HWB.out, HWC.out, HN1.out, HNN.out]
  rw [HN1.out] at HO1
  go_wp2_with fail
  go_loopg [5, 6] 4 (fun gk s5 s6 wr => ∃ i : Nat, i ≤ 4 ∧ gk = 4 - i ∧ s6 = .int .i64 i ∧ RefS n g w (rdB bs i).2.1 (rdB bs i).2.2 wr ∧ OwnK .u64 40 wr base s5 (rdB bs i).1)
  case atStart => exact ⟨0, Nat.zero_le _, rfl, rfl, HS1.out, HO1.out⟩
  case round =>
    obtain ⟨i, hi, hg, rfl, hsr, hown⟩ := hrel
    have HG := Lib.hid hg
    have HLR := Lib.hid (rdB_len bs i)
    by_cases hlt : i < 4
    · have hltz : (i : Int) < 4 := by omega
      have hx1 : rdB bs (i + 1) = ((rdB bs i).1 ++ [(numT (rdB bs i).2.1 (rdB bs i).2.2 255).1], (numT (rdB bs i).2.1 (rdB bs i).2.2 255).2) := rfl
      have HXL := Lib.hid (rdB_length bs i)
      generalize hRK : rdB bs i = RK at *
      obtain ⟨xs, bsk, ek⟩ := RK
      simp only at *
      obtain ⟨Y, bsy, ey, hTK⟩ : ∃ n b e, numT bsk ek 255 = (n, b, e) := ⟨_, _, _, rfl⟩
      rw [hTK] at hx1
      have HX1 := Lib.hid hx1
      obtain ⟨A1, l1, c1, hr1, hv1⟩ := hsr.rd
      have hB := hsr.below.size
      have HNB := Lib.hid (show n ≤ wr.heap.size by have := hsr.size; have := HNG.out; omega)
      have HNUM := Lib.hid (refNum_all n A1 l1 c1 bsk ek 255 wr HNB.out hv1 (by have := HLR.out; omega) (by decide))
      rw [hTK] at HNUM
      obtain ⟨r0, r1, _, _⟩ := two_cells hr1
      have HSR := Lib.hid hsr
      have HOW := Lib.hid hown
      have HBW := Lib.hid (show base ≤ wr.heap.size by have := hsr.size; have := HBE.out; omega)
      clear hx1 hTK hsr hown hRK hg hr1 hv1 hB
      go_wp2_with fail
      refine HNUM.out.mono ?_
      rintro e w2 ⟨v2, rfl, hv2, hb2⟩
      clear r0 r1
      obtain ⟨A2, l2, c2, hv2f⟩ : ∃ A l c, v2 = .slice A l c := by obtain ⟨A, c, h, _⟩ := hv2; exact ⟨A, _, c, h⟩
      subst hv2f
      simp only
      have hb3 := below_new (W := w2) (.cells #[.slice A2 l2 c2, .int .i64 ey] 54)
      have hr3 := World.alloc_heap_new w2 (.cells #[.slice A2 l2 c2, .int .i64 ey] 54)
      have hs3 := World.size_alloc w2 (.cells #[.slice A2 l2 c2, .int .i64 ey] 54)
      have HS3 := Lib.hid ((HSR.out.stay HNG.out HGB.out (hb2.mono HBW.out)).stay HNG.out HGB.out (hb3.mono (Nat.le_trans HBW.out hb2.size)))
      have HO3 := Lib.hid ((HOW.out.keep hb2).keep hb3)
      have HV3 := Lib.hid (hv2.keep (hb3.mono (Nat.le_trans HNB.out hb2.size)))
      have hlt3 : w2.heap.size ≠ g := by have := HSR.out.size; have := hb2.size; omega
      clear hb2 hv2
      go_upto_region 7 with fail
      generalize hw3 : w2.alloc (.cells #[.slice A2 l2 c2, .int .i64 ey] 54) = w3 at *
      obtain ⟨r0, r1, _, _⟩ := two_cells hr3
      obtain ⟨A3, l3, c3, hg3, _⟩ := HS3.out.rd
      obtain ⟨z0, z1, z2, z3⟩ := two_cells hg3
      have HS4 := Lib.hid (HS3.out.next (bs' := bsy) (e' := ey) HNG.out HV3.out)
      have HO4 := Lib.hid ((HO3.out.set HGB.out (.slice A2 l2 c2) (j := 0)).set HGB.out (.int .i64 ey) (j := 1))
      clear hb3 hr3 hs3 hw3 hg3 hlt3
      go_upto_region 8 with fail
      generalize (w3.setCell ⟨g, 0, none⟩ (.slice A2 l2 c2)).setCell ⟨g, 1, none⟩ (.int .i64 ey) = w4 at *
      clear r0 r1 z0 z1 z2 z3
      have HBW4 := Lib.hid (show base ≤ w4.heap.size by have := HS4.out.size; have := HBE.out; omega)
      go_wp2_with (at_builtin; refine wpList_append_num rfl _ _ 42 .u64 40 rfl base Try.underlying42 Try.infoU _ _ rfl (HO4.out.alloc _) w4.heap.size 1 Y rfl (Boxed.new w4 40 (.int .u64 Y)).cell ?hlen2 ?hbase ?_)
      case hlen2 => have := HXL.out; omega
      case hbase => have := HBW4.out; simp; omega
      intro v5 w5 hown5 hb5
      have HO5 := Lib.hid hown5
      have HS5 := Lib.hid ((HS4.out.stay HNG.out HGB.out ((below_new (W := w4) (.cells #[.int .u64 Y] 40)).mono HBW4.out)).stay HNG.out HGB.out hb5)
      clear hown5 hb5
      go_wp2_with fail
      go_roundg (4 - (i + 1))
      case measure => have := HG.out; omega
      case rel =>
        refine ⟨i + 1, by omega, rfl, by go_num, ?_, ?_⟩
        · rw [HX1.out]; exact HS5.out
        · rw [HX1.out]; exact HO5.out
    · have hi4 : i = 4 := by omega
      subst hi4
      have hltz : ¬ (4 : Int) < 4 := by decide
      rw [rdB_four] at hsr hown HLR
      obtain ⟨n1, bs1, e1, hT1⟩ : ∃ n b e, rd1 255 bs = (n, b, e) := ⟨_, _, _, rfl⟩
      obtain ⟨n2, bs2, e2, hT2⟩ : ∃ n b e, rd2 255 255 bs = (n, b, e) := ⟨_, _, _, rfl⟩
      obtain ⟨n3, bs3, e3, hT3⟩ : ∃ n b e, rd3 255 255 255 bs = (n, b, e) := ⟨_, _, _, rfl⟩
      obtain ⟨cn, bs4, e4, hT4⟩ : ∃ n b e, rd4 255 255 255 255 bs = (n, b, e) := ⟨_, _, _, rfl⟩
      have l1 : n1 ≤ 255 := by have := numT_le bs 0 255; rw [show numT bs 0 255 = rd1 255 bs from rfl, hT1] at this; exact this
      have l3 : n3 ≤ 255 := by have := numT_le (rd2 255 255 bs).2.1 (rd2 255 255 bs).2.2 255; rw [show numT (rd2 255 255 bs).2.1 (rd2 255 255 bs).2.2 255 = rd3 255 255 255 bs from rfl, hT3] at this; exact this
      have hcn : cn ≤ 255 := by have := numT_le (rd3 255 255 255 bs).2.1 (rd3 255 255 255 bs).2.2 255; rw [show numT (rd3 255 255 255 bs).2.1 (rd3 255 255 255 bs).2.2 255 = rd4 255 255 255 255 bs from rfl, hT4] at this; exact this
      have HREAD := Lib.hid (fun k => show readR 255 255 255 255 bs k = ⟨n1, n2 == 1, n3, (rdK bs4 e4 k).1.map fun n : Nat => (n : Int)⟩ by unfold readR; rw [hT1, hT2, hT3, hT4])
      have HYES := Lib.hid (fun k hr he => ref_yes (bs := bs) (k := k) hr he)
      have HNOO := Lib.hid (fun k hk hs h => ref_no (bs := bs) (k := k) hk hs h)
      rw [hT4] at HNOO
      rw [hT1, hT2, hT3, hT4] at hsr hown
      rw [hT4] at HLR
      have HQ := Lib.hid (show ((n2 : Int) == 1) = (n2 == 1) by rw [Bool.eq_iff_iff]; simp; omega)
      generalize (n2 == 1) = q at *
      have W1 := Lib.hid (show IntKind.i64.wrap (n1 : Int) = (n1 : Int) by rw [IntWalk.i64_in _ (by omega)])
      have W3 := Lib.hid (show IntKind.i64.wrap (n3 : Int) = (n3 : Int) by rw [IntWalk.i64_in _ (by omega)])
      rcases hown.cells with ⟨_, h⟩ | ⟨b5, cap5, rfl, hc5, hc5m, hb5, hb5l, hcell5⟩
      · cases h
      have HC5 := Lib.hid (fun W (h : Below wr.heap.size wr W) (j x : Nat) (hx : [n1, n2, n3, cn][j]? = some x) => show W.cell? ⟨b5, j, none⟩ = some (.int .u64 x) by
        have := hcell5 j x hx
        rw [Nat.zero_add] at this
        rw [h.cell (p := ⟨b5, j, none⟩) hb5l, this])
      have HSR := Lib.hid hsr
      have HOW := Lib.hid hown
      have hc4 : (4 : Int) ≤ (cap5 : Int) := by have h4 : 4 ≤ cap5 := hc5; omega
      have HB5 := Lib.hid hb5
      have HB5L := Lib.hid hb5l
      clear hsr hown hT1 hT2 hT3 hT4 l1 l3 hcell5 hb5 hb5l hc5 hc5m hg hlt hi
      simp only [List.length_cons, List.length_nil]
      go_wp2_with fail
      have HDR := Lib.hid (show Below wr.heap.size wr wr.drew from below_drewN (Below.refl _ _) 1)
      refine wp_region_N (S1 := fun W => Below wr.heap.size wr W) (S2 := fun _ => True) (N := fun _ => false) (by kernel_rfl) ?_
      change wpAnyN _ _ _ _ _ _ _ 15 (Array.replicate 15 false) _ _
      refine wpAnyN_take false (i := 0) (v := .slice (some ⟨b5, 0, none⟩) 4 cap5) rfl (by kernel_rfl) (by kernel_rfl) (by kernel_rfl) (fun _ _ _ h => h) (.inl ⟨by kernel_rfl, fun W hS => ?_⟩) ⟨HDR.out, fun h => by cases h⟩ ?_
      · simp [execOp, Act.eval, go_sem]
      refine wpAnyN_take false (i := 1) (v := .pointer (some ⟨b5, 0, none⟩)) rfl (by kernel_rfl) (by kernel_rfl) (by kernel_rfl) (fun _ _ _ h => h) (.inl ⟨by kernel_rfl, fun W hS => ?_⟩) ⟨HDR.out, fun h => by cases h⟩ ?_
      · simp [execOp, Act.eval, Act.put, go_sem]
      refine wpAnyN_take false (i := 2) (v := .int .u64 n1) rfl (by kernel_rfl) (by kernel_rfl) (by kernel_rfl) (fun _ _ _ h => h) (.inl ⟨by kernel_rfl, fun W hS => ?_⟩) ⟨HDR.out, fun h => by cases h⟩ ?_
      · simp [execOp, Act.eval, Act.put, go_sem, show W.cell? ⟨b5, 0, none⟩ = some (.int .u64 n1) from HC5.out W hS.1 0 n1 rfl]
      refine wpAnyN_take false (i := 3) (v := .int .i64 n1) rfl (by kernel_rfl) (by kernel_rfl) (by kernel_rfl) (fun _ _ _ h => h) (.inl ⟨by kernel_rfl, fun W hS => ?_⟩) ⟨HDR.out, fun h => by cases h⟩ ?_
      · simp [execOp, Act.eval, Act.put, go_sem, W1.out]
      refine wpAnyN_take false (i := 4) (v := .slice (some ⟨b5, 0, none⟩) 4 cap5) rfl (by kernel_rfl) (by kernel_rfl) (by kernel_rfl) (fun _ _ _ h => h) (.inl ⟨by kernel_rfl, fun W hS => ?_⟩) ⟨HDR.out, fun h => by cases h⟩ ?_
      · simp [execOp, Act.eval, go_sem]
      refine wpAnyN_take false (i := 5) (v := .pointer (some ⟨b5, 1, none⟩)) rfl (by kernel_rfl) (by kernel_rfl) (by kernel_rfl) (fun _ _ _ h => h) (.inl ⟨by kernel_rfl, fun W hS => ?_⟩) ⟨HDR.out, fun h => by cases h⟩ ?_
      · simp [execOp, Act.eval, Act.put, go_sem]
      refine wpAnyN_take false (i := 6) (v := .int .u64 n2) rfl (by kernel_rfl) (by kernel_rfl) (by kernel_rfl) (fun _ _ _ h => h) (.inl ⟨by kernel_rfl, fun W hS => ?_⟩) ⟨HDR.out, fun h => by cases h⟩ ?_
      · simp [execOp, Act.eval, Act.put, go_sem, show W.cell? ⟨b5, 1, none⟩ = some (.int .u64 n2) from HC5.out W hS.1 1 n2 rfl]
      refine wpAnyN_take false (i := 7) (v := .bool q) rfl (by kernel_rfl) (by kernel_rfl) (by kernel_rfl) (fun _ _ _ h => h) (.inl ⟨by kernel_rfl, fun W hS => ?_⟩) ⟨HDR.out, fun h => by cases h⟩ ?_
      · simp [execOp, Act.eval, Act.put, go_sem, HQ.out]
      refine wpAnyN_take false (i := 8) (v := .slice (some ⟨b5, 0, none⟩) 4 cap5) rfl (by kernel_rfl) (by kernel_rfl) (by kernel_rfl) (fun _ _ _ h => h) (.inl ⟨by kernel_rfl, fun W hS => ?_⟩) ⟨HDR.out, fun h => by cases h⟩ ?_
      · simp [execOp, Act.eval, go_sem]
      refine wpAnyN_take false (i := 9) (v := .pointer (some ⟨b5, 2, none⟩)) rfl (by kernel_rfl) (by kernel_rfl) (by kernel_rfl) (fun _ _ _ h => h) (.inl ⟨by kernel_rfl, fun W hS => ?_⟩) ⟨HDR.out, fun h => by cases h⟩ ?_
      · simp [execOp, Act.eval, Act.put, go_sem]
      refine wpAnyN_take false (i := 10) (v := .int .u64 n3) rfl (by kernel_rfl) (by kernel_rfl) (by kernel_rfl) (fun _ _ _ h => h) (.inl ⟨by kernel_rfl, fun W hS => ?_⟩) ⟨HDR.out, fun h => by cases h⟩ ?_
      · simp [execOp, Act.eval, Act.put, go_sem, show W.cell? ⟨b5, 2, none⟩ = some (.int .u64 n3) from HC5.out W hS.1 2 n3 rfl]
      refine wpAnyN_take false (i := 11) (v := .int .i64 n3) rfl (by kernel_rfl) (by kernel_rfl) (by kernel_rfl) (fun _ _ _ h => h) (.inl ⟨by kernel_rfl, fun W hS => ?_⟩) ⟨HDR.out, fun h => by cases h⟩ ?_
      · simp [execOp, Act.eval, Act.put, go_sem, W3.out]
      refine wpAnyN_take false (i := 12) (v := .agg (repA ⟨n1, q, n3, []⟩ (.slice none 0 0))) rfl (by kernel_rfl) (by kernel_rfl) (by kernel_rfl) (fun _ _ _ h => h) (.inl ⟨by kernel_rfl, fun W hS => ?_⟩) ⟨HDR.out, fun h => by cases h⟩ ?_
      · simp [execOp, Act.eval, Act.put, go_sem]
      refine wpAnyN_step (i := 13) (by kernel_rfl) rfl (by kernel_rfl) ?_
      intro K' hK
      try simp only [Act.put]
      go_simp
      have hzz : RepAt (wr.alloc (.cells #[.int .i64 0, .bool false, .int .i64 0, .slice none 0 0] 25)).drew wr.heap.size zeroR (.slice none 0 0) := RepAt.new wr zeroR (.slice none 0 0)
      have hbz : Below wr.heap.size wr (wr.alloc (.cells #[.int .i64 0, .bool false, .int .i64 0, .slice none 0 0] 25)).drew := ((Below.refl _ _).alloc (Nat.le_refl _) _).drew
      have HBZ := Lib.hid hbz
      have HZZ := Lib.hid hzz
      refine hK.out _ _ HBZ.out (fun h => absurd h (by decide)) ?_
      obtain ⟨z0, z1, z2, z3⟩ := hzz.cells
      have fz := hzz.frozen
      clear hbz hzz
      refine wpAnyN_step (i := 14) (by kernel_rfl) rfl (by kernel_rfl) ?_
      intro K' hK
      generalize (wr.alloc (.cells #[.int .i64 0, .bool false, .int .i64 0, .slice none 0 0] 25)).drew = wz at *
      try simp only [Act.put]
      go_simp
      have HRZ := Lib.hid (show RepAt ((((wz.setCell ⟨wr.heap.size, 0, none⟩ (.int .i64 n1)).setCell ⟨wr.heap.size, 1, none⟩ (.bool q)).setCell ⟨wr.heap.size, 2, none⟩ (.int .i64 n3)).setCell ⟨wr.heap.size, 3, none⟩ (.slice none 0 0)) wr.heap.size ⟨n1, q, n3, []⟩ (.slice none 0 0) from HZZ.out.all ⟨n1, q, n3, []⟩ (.slice none 0 0))
      have HBY := Lib.hid ((((HBZ.out.setCell (p := ⟨wr.heap.size, 0, none⟩) (Nat.le_refl _) (.int .i64 n1)).setCell (p := ⟨wr.heap.size, 1, none⟩) (Nat.le_refl _) (.bool q)).setCell (p := ⟨wr.heap.size, 2, none⟩) (Nat.le_refl _) (.int .i64 n3)).setCell (p := ⟨wr.heap.size, 3, none⟩) (Nat.le_refl _) (.slice none 0 0))
      refine hK.out _ _ HBY.out (fun h => absurd h (by decide)) ?_
      refine wpAnyN_done (by kernel_rfl) ?_
      try simp only [Act.put]
      try go_simp
      have hrb0 := HSR.out.size
      generalize hrb : wr.heap.size = rb at *
      have HBR := Lib.hid (show base ≤ rb by have := HBE.out; omega)
      have HSY := Lib.hid (HSR.out.stay HNG.out HGB.out (HBY.out.mono HBR.out))
      have HC3 := Lib.hid (HC5.out _ HBY.out 3 cn rfl)
      have HRO := Lib.hid (show RefO n g b5 rb from ⟨HNG.out, by have := HB5.out; have := HGB.out; omega, by have := HB5L.out; omega⟩)
      generalize (((wz.setCell ⟨rb, 0, none⟩ (.int .i64 n1)).setCell ⟨rb, 1, none⟩ (.bool q)).setCell ⟨rb, 2, none⟩ (.int .i64 n3)).setCell ⟨rb, 3, none⟩ (.slice none 0 0) = wy at *
      generalize wr = wo at *
      clear z0 z1 z2 z3 fz hrb0 hrb hltz hK K'
      go_wp2_with fail
      go_loopg [10] cn (fun gk s10 wr => ∃ k : Nat, k ≤ cn ∧ gk = cn - k ∧ s10 = .int .u64 k ∧ ∃ v, RefT n g b5 rb cn w (rdK bs4 e4 k).2.1 (rdK bs4 e4 k).2.2 ⟨n1, q, n3, (rdK bs4 e4 k).1.map fun n : Nat => (n : Int)⟩ v wr ∧ OwnK .i64 3 wr (rb + 1) v (rdK bs4 e4 k).1)
      case atStart => exact ⟨0, Nat.zero_le _, rfl, rfl, _, ⟨HSY.out, HC3.out, HRZ.out⟩, OwnK.nil _ _ _ _⟩
      case round =>
        obtain ⟨k, hk, hg, rfl, v, ht, hown⟩ := hrel
        have HG := Lib.hid hg
        have HXL := Lib.hid (show (rdK bs4 e4 k).1.length ≤ 255 by rw [rdK_length]; omega)
        have HRL := Lib.hid (rdK_len bs4 e4 k)
        clear hg
        by_cases hgo : k < cn ∧ (rdK bs4 e4 k).2.2 = 0
        · obtain ⟨hlt, he0⟩ := hgo
          have hltz : (k : Int) < (cn : Int) := by omega
          have hx1 : rdK bs4 e4 (k + 1) = ((rdK bs4 e4 k).1 ++ [(numT (rdK bs4 e4 k).2.1 (rdK bs4 e4 k).2.2 maxI).1], (numT (rdK bs4 e4 k).2.1 (rdK bs4 e4 k).2.2 maxI).2) := rfl
          have hyl := numT_le (rdK bs4 e4 k).2.1 (rdK bs4 e4 k).2.2 maxI
          generalize hRK : rdK bs4 e4 k = RK at *
          obtain ⟨xs, bsk, ek⟩ := RK
          simp only at *
          subst he0
          obtain ⟨Y, bsy, ey, hTK⟩ : ∃ n b e, numT bsk 0 maxI = (n, b, e) := ⟨_, _, _, rfl⟩
          rw [hTK] at hx1 hyl
          have HX1 := Lib.hid hx1
          have hyw : IntKind.i64.wrap (Y : Int) = (Y : Int) := by unfold maxI at hyl; rw [IntWalk.i64_in _ (by simp only at hyl; omega)]
          have hk1 : IntKind.u64.wrap ((k : Int) + 1) = ((k + 1 : Nat) : Int) := by rw [IntKind.wrap_u64]; omega
          obtain ⟨A1, l1, c1, hr1, hv1⟩ := ht.s.rd
          have HNB := Lib.hid (show n ≤ wr.heap.size by have := ht.s.size; have := HNG.out; omega)
          have HNUM := Lib.hid (refNum_all n A1 l1 c1 bsk 0 9223372036854775807 wr HNB.out hv1 (by have := HRL.out; have := HLR.out; omega) (by decide))
          rw [show numT bsk 0 9223372036854775807 = (Y, bsy, ey) from hTK] at HNUM
          obtain ⟨r0, r1, _, _⟩ := two_cells hr1
          have hc3 := ht.c3
          have HTT := Lib.hid ht
          have HOW := Lib.hid hown
          have HSZ := Lib.hid (show rb + 1 ≤ wr.heap.size from ht.rep.lt)
          clear hx1 hTK ht hown hRK hr1 hv1 hyl
          go_wp2_with fail
          refine HNUM.out.mono ?_
          rintro e w2 ⟨v2, rfl, hv2, hb2⟩
          clear r0 r1 hc3
          obtain ⟨A2, l2, c2, hv2f⟩ : ∃ A l c, v2 = .slice A l c := by obtain ⟨A, c, h, _⟩ := hv2; exact ⟨A, _, c, h⟩
          subst hv2f
          simp only
          have hb3 := below_new (W := w2) (.cells #[.slice A2 l2 c2, .int .i64 ey] 54)
          have hr3 := World.alloc_heap_new w2 (.cells #[.slice A2 l2 c2, .int .i64 ey] 54)
          have HT3 := Lib.hid ((HTT.out.keep HRO.out hb2).keep HRO.out hb3)
          have HO3 := Lib.hid ((HOW.out.keep hb2).keep hb3)
          have HV3 := Lib.hid (hv2.keep (hb3.mono (Nat.le_trans HNB.out hb2.size)))
          clear hb2 hv2 hb3
          go_upto_region 14 with fail
          generalize w2.alloc (.cells #[.slice A2 l2 c2, .int .i64 ey] 54) = w3 at *
          obtain ⟨r0, r1, _, _⟩ := two_cells hr3
          obtain ⟨A3, l3, c3, hg3, _⟩ := HT3.out.s.rd
          obtain ⟨z0, z1, z2, z3⟩ := two_cells hg3
          have ht4 := HT3.out.next (bs' := bsy) (e' := ey) HRO.out HV3.out
          have HT4 := Lib.hid ht4
          have HO4 := Lib.hid ((HO3.out.set (show g < rb + 1 by have := HRO.out.b; have := HRO.out.c; omega) (.slice A2 l2 c2) (j := 0)).set (show g < rb + 1 by have := HRO.out.b; have := HRO.out.c; omega) (.int .i64 ey) (j := 1))
          clear hr3 hg3 ht4
          go_upto_region 15 with fail
          generalize (w3.setCell ⟨g, 0, none⟩ (.slice A2 l2 c2)).setCell ⟨g, 1, none⟩ (.int .i64 ey) = w4 at *
          clear r0 r1 z0 z1 z2 z3
          have ht4 := HT4.out
          obtain ⟨_, _, _, q3⟩ := ht4.rep.cells
          have HBW4 := Lib.hid (show rb + 1 ≤ w4.heap.size from ht4.rep.lt)
          have hb5 := below_new (W := w4) (.cells #[.int .i64 Y] 3)
          have HT5 := Lib.hid (ht4.keep HRO.out hb5)
          clear hb5 ht4
          go_wp2_with (at_builtin; refine wpList_append_num rfl _ _ 23 .i64 3 rfl (rb + 1) Try.underlying23 Try.infoInt _ _ rfl (HO4.out.alloc _) w4.heap.size 1 Y rfl (Boxed.new w4 3 (.int .i64 Y)).cell ?hlen2 ?hbase ?_)
          case hlen2 => have := HXL.out; omega
          case hbase => have := HBW4.out; simp; omega
          intro v6 w6 hown6 hb6
          obtain ⟨A6, c6, rfl⟩ := hown6.form
          have hl6 : (xs ++ [Y]).length = xs.length + 1 := by simp
          rw [hl6] at hown6
          have ht6 := HT5.out.stay HRO.out hb6 (Nat.lt_succ_self _)
          obtain ⟨_, _, _, q6⟩ := ht6.rep.cells
          have f6 := ht6.rep.frozen 3
          have HT7 := Lib.hid (ht6.set HRO.out (.slice A6 (xs.length + 1) c6) ((xs ++ [Y]).map fun n : Nat => (n : Int)))
          have HO7 := Lib.hid (hown6.set (show rb < rb + 1 by omega) (.slice A6 (xs.length + 1) c6) (j := 3))
          clear hown6 hb6 ht6 q3 hl6
          simp only [List.length_append, List.length_cons, List.length_nil]
          go_upto_region 12 with fail
          generalize w6.setCell ⟨rb, 3, none⟩ (.slice A6 (xs.length + 1) c6) = w7 at *
          clear q6 f6
          go_wp2_with fail
          go_roundg (cn - (k + 1))
          case measure => have := HG.out; omega
          case rel =>
            refine ⟨k + 1, by omega, rfl, by first | rfl | (simp; done), .slice A6 (xs.length + 1) c6, ?_, ?_⟩
            · rw [HX1.out]; exact HT7.out
            · rw [HX1.out]; exact HO7.out
        · have hstop : k = cn ∨ (rdK bs4 e4 k).2.2 ≠ 0 := by
            by_cases h : k = cn
            · exact .inl h
            · exact .inr (fun h' => hgo ⟨by omega, h'⟩)
          have hYES := HYES.out k
          have hNOO := HNOO.out k hk hstop
          rw [HREAD.out k] at hYES hNOO
          have hints := hown.ints (by rw [rdK_length]; omega)
          have HSTOP := Lib.hid hstop
          have hsm := readR_small 255 255 255 255 bs k
          rw [HREAD.out k] at hsm
          generalize hRK : rdK bs4 e4 k = RK at *
          obtain ⟨xs, bsk, ek⟩ := RK
          simp only at *
          obtain ⟨Av, cv, rfl⟩ := hown.form
          have HYES2 := Lib.hid hYES
          have HNOO2 := Lib.hid hNOO
          have HTT := Lib.hid ht
          have HOW := Lib.hid hown
          have HIA := Lib.hid (fun W (h : Below wr.heap.size wr W) => hints.keep h)
          have HRP := Lib.hid (fun W (h : Below wr.heap.size wr W) => (ht.rep.keep h).cells)
          have HVW := Lib.hid (fun W (h : Below wr.heap.size wr W) => (HVI.out.keep (ht.s.below.trans (h.mono (show n ≤ wr.heap.size by have := ht.s.size; have := HNG.out; omega)))).at_ (show n ≤ W.heap.size by have := ht.s.below.size; have := h.size; have := HNN.out; omega))
          obtain ⟨A1, l1, c1, hr1, hv1⟩ := ht.s.rd
          have hl1 : l1 = bsk.length := by obtain ⟨_, _, h, _⟩ := hv1; injection h
          subst hl1
          have HRD := Lib.hid (fun W (h : Below wr.heap.size wr W) => show W.cell? ⟨g, 0, none⟩ = some (.slice A1 bsk.length c1) ∧ W.cell? ⟨g, 1, none⟩ = some (.int .i64 ek) from by
            obtain ⟨a, b, _⟩ := two_cells ((h.block g (heap_lt hr1)).trans hr1)
            exact ⟨a, b⟩)
          have hc3 := ht.c3
          obtain ⟨r0, r1, _, _⟩ := two_cells hr1
          clear ht hown hints hYES hNOO hstop hRK hv1 hr1 hgo
          generalize hEE : endI bsk ek = E at *
          have HEE := Lib.hid hEE
          clear hEE
          by_cases hkc : k < cn
          · have hltz : (k : Int) < (cn : Int) := by omega
            have hek : (ek == 0) = false := by
              rcases HSTOP.out with h | h
              · omega
              · simpa using h
            by_cases hE : E = 0
            · subst hE
              cases hr : rightB ⟨n1, q, n3, xs.map fun n : Nat => (n : Int)⟩ with
              | true =>
                have HRT := Lib.hid hr
                have HFT := Lib.hid (show FitR ⟨n1, q, n3, xs.map fun n : Nat => (n : Int)⟩ from ⟨hr, hsm⟩)
                by_cases hen : encR ⟨n1, q, n3, xs.map fun n : Nat => (n : Int)⟩ = bs
                · have HDY := Lib.hid (HYES2.out hr hen)
                  have e5 := text_beq (p := true) (encR_byte _) HVB.out (by rw [hen]; simp)
                  have e6 : ((textOf (encR ⟨n1, q, n3, xs.map fun n : Nat => (n : Int)⟩)).toList != (textOf bs).toList) = false := by simp [bne, e5]
                  clear hr hen hsm
                  go_wp2_with fail
                  have HDR := Lib.hid (show Below wr.heap.size wr wr.drew from below_drewN (Below.refl _ _) 1)
                  refine wp_region_N (S1 := fun W => Below wr.heap.size wr W) (S2 := fun _ => True) (N := fun _ => false) (by kernel_rfl) ?_
                  change wpAnyN _ _ _ _ _ _ _ 16 (Array.replicate 16 false) _ _
                  refine wpAnyN_take false (i := 0) (v := .agg #[.slice A1 bsk.length c1, .int .i64 ek]) rfl (by kernel_rfl) (by kernel_rfl) (by kernel_rfl) (fun _ _ _ h => h) (.inl ⟨by kernel_rfl, fun W hS => ?_⟩) ⟨HDR.out, fun h => by cases h⟩ ?_
                  · simp [execOp, Act.eval, go_sem, show W.cell? ⟨g, 0, none⟩ = some _ from (HRD.out W hS.1).1, show W.cell? ⟨g, 1, none⟩ = some _ from (HRD.out W hS.1).2]
                  refine wpAnyN_step (i := 1) (by kernel_rfl) rfl (by kernel_rfl) ?_
                  intro K' hK
                  try simp only [Act.put]
                  go_simp
                  refine (refEnd12_any A1 c1 bsk ek _).mono ?_
                  rw [HEE.out]
                  rintro e w2 ⟨rfl, hb2⟩
                  have HB2 := Lib.hid (HDR.out.trans hb2)
                  clear hb2
                  refine hK.out _ _ HB2.out (fun h => absurd h (by decide)) ?_
                  refine wpAnyN_step (i := 2) (by kernel_rfl) rfl (by kernel_rfl) ?_
                  intro K' hK
                  try simp only [Act.put]
                  go_simp
                  refine hK.out _ _ HB2.out (fun h => absurd h (by decide)) ?_
                  refine wpAnyN_step (i := 3) (by kernel_rfl) rfl (by kernel_rfl) ?_
                  intro K' hK
                  try simp only [Act.put]
                  go_simp
                  refine hK.out _ _ HB2.out (fun h => absurd h (by decide)) ?_
                  refine wpAnyN_take false (i := 4) (v := .agg (repA ⟨n1, q, n3, xs.map fun n : Nat => (n : Int)⟩ (.slice Av xs.length cv))) rfl (by kernel_rfl) (by kernel_rfl) (by kernel_rfl) (fun _ _ _ h => h) (.inl ⟨by kernel_rfl, fun W hS => ?_⟩) ⟨HB2.out, fun h => by cases h⟩ ?_
                  · simp [execOp, Act.eval, go_sem, show W.cell? ⟨rb, 0, none⟩ = some _ from (HRP.out W hS.1).1, show W.cell? ⟨rb, 1, none⟩ = some _ from (HRP.out W hS.1).2.1, show W.cell? ⟨rb, 2, none⟩ = some _ from (HRP.out W hS.1).2.2.1, show W.cell? ⟨rb, 3, none⟩ = some _ from (HRP.out W hS.1).2.2.2]
                  refine wpAnyN_step (i := 5) (by kernel_rfl) rfl (by kernel_rfl) ?_
                  intro K' hK
                  try simp only [Act.put]
                  go_simp
                  refine (refRight_any ⟨n1, q, n3, xs.map fun n : Nat => (n : Int)⟩ _ w2 (HIA.out _ HB2.out)).mono ?_
                  rw [HRT.out]
                  rintro e w3 ⟨rfl, hb3⟩
                  have HB3 := Lib.hid (HB2.out.trans (hb3.mono HB2.out.size))
                  clear hb3
                  refine hK.out _ _ HB3.out (fun h => absurd h (by decide)) ?_
                  refine wpAnyN_step (i := 6) (by kernel_rfl) rfl (by kernel_rfl) ?_
                  intro K' hK
                  try simp only [Act.put]
                  go_simp
                  refine hK.out _ _ HB3.out (fun h => absurd h (by decide)) ?_
                  refine wpAnyN_step (i := 7) (by kernel_rfl) rfl (by kernel_rfl) ?_
                  intro K' hK
                  try simp only [Act.put]
                  go_simp
                  refine hK.out _ _ HB3.out (fun h => absurd h (by decide)) ?_
                  refine wpAnyN_step (i := 8) (by kernel_rfl) rfl (by kernel_rfl) ?_
                  intro K' hK
                  try simp only [Act.put]
                  go_simp
                  refine hK.out _ _ HB3.out (fun h => absurd h (by decide)) ?_
                  refine wpAnyN_take false (i := 12) (v := .slice A bs.length c) rfl (by kernel_rfl) (by kernel_rfl) (by kernel_rfl) (fun _ _ _ h => h) (.inl ⟨by kernel_rfl, fun W hS => ?_⟩) ⟨HB3.out, fun h => by cases h⟩ ?_
                  · simp [execOp, Act.eval, go_sem]
                  refine wpAnyN_take false (i := 13) (v := .string (textOf bs)) rfl (by kernel_rfl) (by kernel_rfl) (by kernel_rfl) (fun _ _ _ h => h) (.inl ⟨by kernel_rfl, fun W hS => ?_⟩) ⟨HB3.out, fun h => by cases h⟩ ?_
                  · simp [execOp, Act.eval, Act.put, go_sem, conv_text (P := Try.prog) (dst := 9) (HVW.out W hS.1) Try.underlying27 Try.underlying5 Try.underlying9]
                  refine wpAnyN_take false (i := 9) (v := .agg (repA ⟨n1, q, n3, xs.map fun n : Nat => (n : Int)⟩ (.slice Av xs.length cv))) rfl (by kernel_rfl) (by kernel_rfl) (by kernel_rfl) (fun _ _ _ h => h) (.inl ⟨by kernel_rfl, fun W hS => ?_⟩) ⟨HB3.out, fun h => by cases h⟩ ?_
                  · simp [execOp, Act.eval, Act.put, go_sem, show W.cell? ⟨rb, 0, none⟩ = some _ from (HRP.out W hS.1).1, show W.cell? ⟨rb, 1, none⟩ = some _ from (HRP.out W hS.1).2.1, show W.cell? ⟨rb, 2, none⟩ = some _ from (HRP.out W hS.1).2.2.1, show W.cell? ⟨rb, 3, none⟩ = some _ from (HRP.out W hS.1).2.2.2]
                  refine wpAnyN_step (i := 10) (by kernel_rfl) rfl (by kernel_rfl) ?_
                  intro K' hK
                  try simp only [Act.put]
                  go_simp
                  refine (refEncode_any ⟨n1, q, n3, xs.map fun n : Nat => (n : Int)⟩ _ w3 (HIA.out _ HB3.out) HFT.out).mono ?_
                  rintro e w4 ⟨v4, rfl, ho4, hb4⟩
                  have e4 := conv_text (P := Try.prog) (dst := 9) ho4.bytes Try.underlying27 Try.underlying5 Try.underlying9
                  have HB4 := Lib.hid (HB3.out.trans (hb4.mono HB3.out.size))
                  clear ho4 hb4
                  refine hK.out _ _ HB4.out (fun h => absurd h (by decide)) ?_
                  refine wpAnyN_step (i := 11) (by kernel_rfl) rfl (by kernel_rfl) ?_
                  intro K' hK
                  try simp only [Act.put]
                  go_simp
                  refine hK.out _ _ HB4.out (fun h => absurd h (by decide)) ?_
                  clear e4
                  refine wpAnyN_step (i := 14) (by kernel_rfl) rfl (by kernel_rfl) ?_
                  intro K' hK
                  try simp only [Act.put]
                  go_simp
                  refine hK.out _ _ HB4.out (fun h => absurd h (by decide)) ?_
                  refine wpAnyN_step (i := 15) (by kernel_rfl) rfl (by kernel_rfl) ?_
                  intro K' hK
                  try simp only [Act.put]
                  go_simp
                  refine hK.out _ _ HB4.out (fun h => absurd h (by decide)) ?_
                  refine wpAnyN_done (by kernel_rfl) ?_
                  try simp only [Act.put]
                  try go_simp
                  clear K' hK
                  have hs := HTT.out.keep HRO.out HB4.out
                  obtain ⟨c0, c1', c2, c3⟩ := hs.rep.cells
                  obtain ⟨z0, z1, z2, z3⟩ := hs.s.z.cells
                  have fz := hs.s.z.frozen
                  have HD := Lib.hid (show RepAt ((((w4.setCell ⟨n, 0, none⟩ (.int .i64 n1)).setCell ⟨n, 1, none⟩ (.bool q)).setCell ⟨n, 2, none⟩ (.int .i64 n3)).setCell ⟨n, 3, none⟩ (.slice Av xs.length cv)) n ⟨n1, q, n3, xs.map fun n : Nat => (n : Int)⟩ (.slice Av xs.length cv) from hs.s.z.all ⟨n1, q, n3, xs.map fun n : Nat => (n : Int)⟩ (.slice Av xs.length cv))
                  have HBF := Lib.hid ((((hs.s.below.setCell (p := ⟨n, 0, none⟩) (Nat.le_refl _) (.int .i64 n1)).setCell (p := ⟨n, 1, none⟩) (Nat.le_refl _) (.bool q)).setCell (p := ⟨n, 2, none⟩) (Nat.le_refl _) (.int .i64 n3)).setCell (p := ⟨n, 3, none⟩) (Nat.le_refl _) (.slice Av xs.length cv))
                  have HIN := Lib.hid (((HOW.out.keep HB4.out).moved (apart_all (b := n) (.int .i64 n1) (.bool q) (.int .i64 n3) (.slice Av xs.length cv)) (by have := HRO.out.a; have := HRO.out.b; have := HRO.out.c; omega)).ints (by have := HXL.out; omega))
                  clear hs
                  try dsimp only
                  repeat go_step
                  refine bodyPost_ret (v := .tuple #[.agg (repA ⟨n1, q, n3, xs.map fun n : Nat => (n : Int)⟩ (.slice Av xs.length cv)), .bool true]) (results_row_tmp2 rfl _ _ n _ _ _ _ rfl HD.out Try.underlying25 rfl (Try.sizeRep _ _) _ rfl) rfl ?_
                  exact ⟨_, true, _, rfl, HDY.out, HIN.out, by rw [HNN.out]; exact HBF.out⟩
                · have HNO := Lib.hid (HNOO2.out (.inr (.inr hen)))
                  have e5 := text_beq (p := false) (encR_byte ⟨n1, q, n3, xs.map fun n : Nat => (n : Int)⟩) HVB.out (by simp [hen])
                  have e6 : ((textOf (encR ⟨n1, q, n3, xs.map fun n : Nat => (n : Int)⟩)).toList != (textOf bs).toList) = true := by simp [bne, e5]
                  clear hr hen hsm
                  go_wp2_with fail
                  have HDR := Lib.hid (show Below wr.heap.size wr wr.drew from below_drewN (Below.refl _ _) 1)
                  refine wp_region_N (S1 := fun W => Below wr.heap.size wr W) (S2 := fun _ => True) (N := fun _ => false) (by kernel_rfl) ?_
                  change wpAnyN _ _ _ _ _ _ _ 16 (Array.replicate 16 false) _ _
                  refine wpAnyN_take false (i := 0) (v := .agg #[.slice A1 bsk.length c1, .int .i64 ek]) rfl (by kernel_rfl) (by kernel_rfl) (by kernel_rfl) (fun _ _ _ h => h) (.inl ⟨by kernel_rfl, fun W hS => ?_⟩) ⟨HDR.out, fun h => by cases h⟩ ?_
                  · simp [execOp, Act.eval, go_sem, show W.cell? ⟨g, 0, none⟩ = some _ from (HRD.out W hS.1).1, show W.cell? ⟨g, 1, none⟩ = some _ from (HRD.out W hS.1).2]
                  refine wpAnyN_step (i := 1) (by kernel_rfl) rfl (by kernel_rfl) ?_
                  intro K' hK
                  try simp only [Act.put]
                  go_simp
                  refine (refEnd12_any A1 c1 bsk ek _).mono ?_
                  rw [HEE.out]
                  rintro e w2 ⟨rfl, hb2⟩
                  have HB2 := Lib.hid (HDR.out.trans hb2)
                  clear hb2
                  refine hK.out _ _ HB2.out (fun h => absurd h (by decide)) ?_
                  refine wpAnyN_step (i := 2) (by kernel_rfl) rfl (by kernel_rfl) ?_
                  intro K' hK
                  try simp only [Act.put]
                  go_simp
                  refine hK.out _ _ HB2.out (fun h => absurd h (by decide)) ?_
                  refine wpAnyN_step (i := 3) (by kernel_rfl) rfl (by kernel_rfl) ?_
                  intro K' hK
                  try simp only [Act.put]
                  go_simp
                  refine hK.out _ _ HB2.out (fun h => absurd h (by decide)) ?_
                  refine wpAnyN_take false (i := 4) (v := .agg (repA ⟨n1, q, n3, xs.map fun n : Nat => (n : Int)⟩ (.slice Av xs.length cv))) rfl (by kernel_rfl) (by kernel_rfl) (by kernel_rfl) (fun _ _ _ h => h) (.inl ⟨by kernel_rfl, fun W hS => ?_⟩) ⟨HB2.out, fun h => by cases h⟩ ?_
                  · simp [execOp, Act.eval, go_sem, show W.cell? ⟨rb, 0, none⟩ = some _ from (HRP.out W hS.1).1, show W.cell? ⟨rb, 1, none⟩ = some _ from (HRP.out W hS.1).2.1, show W.cell? ⟨rb, 2, none⟩ = some _ from (HRP.out W hS.1).2.2.1, show W.cell? ⟨rb, 3, none⟩ = some _ from (HRP.out W hS.1).2.2.2]
                  refine wpAnyN_step (i := 5) (by kernel_rfl) rfl (by kernel_rfl) ?_
                  intro K' hK
                  try simp only [Act.put]
                  go_simp
                  refine (refRight_any ⟨n1, q, n3, xs.map fun n : Nat => (n : Int)⟩ _ w2 (HIA.out _ HB2.out)).mono ?_
                  rw [HRT.out]
                  rintro e w3 ⟨rfl, hb3⟩
                  have HB3 := Lib.hid (HB2.out.trans (hb3.mono HB2.out.size))
                  clear hb3
                  refine hK.out _ _ HB3.out (fun h => absurd h (by decide)) ?_
                  refine wpAnyN_step (i := 6) (by kernel_rfl) rfl (by kernel_rfl) ?_
                  intro K' hK
                  try simp only [Act.put]
                  go_simp
                  refine hK.out _ _ HB3.out (fun h => absurd h (by decide)) ?_
                  refine wpAnyN_step (i := 7) (by kernel_rfl) rfl (by kernel_rfl) ?_
                  intro K' hK
                  try simp only [Act.put]
                  go_simp
                  refine hK.out _ _ HB3.out (fun h => absurd h (by decide)) ?_
                  refine wpAnyN_step (i := 8) (by kernel_rfl) rfl (by kernel_rfl) ?_
                  intro K' hK
                  try simp only [Act.put]
                  go_simp
                  refine hK.out _ _ HB3.out (fun h => absurd h (by decide)) ?_
                  refine wpAnyN_take false (i := 12) (v := .slice A bs.length c) rfl (by kernel_rfl) (by kernel_rfl) (by kernel_rfl) (fun _ _ _ h => h) (.inl ⟨by kernel_rfl, fun W hS => ?_⟩) ⟨HB3.out, fun h => by cases h⟩ ?_
                  · simp [execOp, Act.eval, go_sem]
                  refine wpAnyN_take false (i := 13) (v := .string (textOf bs)) rfl (by kernel_rfl) (by kernel_rfl) (by kernel_rfl) (fun _ _ _ h => h) (.inl ⟨by kernel_rfl, fun W hS => ?_⟩) ⟨HB3.out, fun h => by cases h⟩ ?_
                  · simp [execOp, Act.eval, Act.put, go_sem, conv_text (P := Try.prog) (dst := 9) (HVW.out W hS.1) Try.underlying27 Try.underlying5 Try.underlying9]
                  refine wpAnyN_take false (i := 9) (v := .agg (repA ⟨n1, q, n3, xs.map fun n : Nat => (n : Int)⟩ (.slice Av xs.length cv))) rfl (by kernel_rfl) (by kernel_rfl) (by kernel_rfl) (fun _ _ _ h => h) (.inl ⟨by kernel_rfl, fun W hS => ?_⟩) ⟨HB3.out, fun h => by cases h⟩ ?_
                  · simp [execOp, Act.eval, Act.put, go_sem, show W.cell? ⟨rb, 0, none⟩ = some _ from (HRP.out W hS.1).1, show W.cell? ⟨rb, 1, none⟩ = some _ from (HRP.out W hS.1).2.1, show W.cell? ⟨rb, 2, none⟩ = some _ from (HRP.out W hS.1).2.2.1, show W.cell? ⟨rb, 3, none⟩ = some _ from (HRP.out W hS.1).2.2.2]
                  refine wpAnyN_step (i := 10) (by kernel_rfl) rfl (by kernel_rfl) ?_
                  intro K' hK
                  try simp only [Act.put]
                  go_simp
                  refine (refEncode_any ⟨n1, q, n3, xs.map fun n : Nat => (n : Int)⟩ _ w3 (HIA.out _ HB3.out) HFT.out).mono ?_
                  rintro e w4 ⟨v4, rfl, ho4, hb4⟩
                  have e4 := conv_text (P := Try.prog) (dst := 9) ho4.bytes Try.underlying27 Try.underlying5 Try.underlying9
                  have HB4 := Lib.hid (HB3.out.trans (hb4.mono HB3.out.size))
                  clear ho4 hb4
                  refine hK.out _ _ HB4.out (fun h => absurd h (by decide)) ?_
                  refine wpAnyN_step (i := 11) (by kernel_rfl) rfl (by kernel_rfl) ?_
                  intro K' hK
                  try simp only [Act.put]
                  go_simp
                  refine hK.out _ _ HB4.out (fun h => absurd h (by decide)) ?_
                  clear e4
                  refine wpAnyN_step (i := 14) (by kernel_rfl) rfl (by kernel_rfl) ?_
                  intro K' hK
                  try simp only [Act.put]
                  go_simp
                  refine hK.out _ _ HB4.out (fun h => absurd h (by decide)) ?_
                  refine wpAnyN_step (i := 15) (by kernel_rfl) rfl (by kernel_rfl) ?_
                  intro K' hK
                  try simp only [Act.put]
                  go_simp
                  refine hK.out _ _ HB4.out (fun h => absurd h (by decide)) ?_
                  refine wpAnyN_done (by kernel_rfl) ?_
                  try simp only [Act.put]
                  try go_simp
                  clear K' hK
                  have hs := (HTT.out.keep HRO.out HB4.out).s
                  obtain ⟨z0, z1, z2, z3⟩ := hs.z.cells
                  have fz := hs.z.frozen
                  have HD := Lib.hid (hs.z.all zeroR (.slice none 0 0))
                  have HBF := Lib.hid ((((hs.below.setCell (p := ⟨n, 0, none⟩) (Nat.le_refl _) (.int .i64 0)).setCell (p := ⟨n, 1, none⟩) (Nat.le_refl _) (.bool false)).setCell (p := ⟨n, 2, none⟩) (Nat.le_refl _) (.int .i64 0)).setCell (p := ⟨n, 3, none⟩) (Nat.le_refl _) (.slice none 0 0))
                  clear hs
                  try dsimp only
                  repeat go_step
                  refine bodyPost_ret (v := .tuple #[.agg (repA zeroR (.slice none 0 0)), .bool false]) (results_row_tmp2 rfl _ _ n _ _ _ _ rfl HD.out Try.underlying25 rfl (Try.sizeRep _ _) _ rfl) rfl ?_
                  exact ⟨zeroR, false, _, rfl, HNO.out, IntsAt.nil _, by rw [HNN.out]; exact HBF.out⟩
              | false =>
                have HNO := Lib.hid (HNOO2.out (.inr (.inl hr)))
                have HRT := Lib.hid hr
                clear hr hsm
                go_wp2_with fail
                have HDR := Lib.hid (show Below wr.heap.size wr wr.drew from below_drewN (Below.refl _ _) 1)
                refine wp_region_N (S1 := fun W => Below wr.heap.size wr W) (S2 := fun _ => True) (N := fun _ => false) (by kernel_rfl) ?_
                change wpAnyN _ _ _ _ _ _ _ 16 (Array.replicate 16 false) _ _
                refine wpAnyN_take false (i := 0) (v := .agg #[.slice A1 bsk.length c1, .int .i64 ek]) rfl (by kernel_rfl) (by kernel_rfl) (by kernel_rfl) (fun _ _ _ h => h) (.inl ⟨by kernel_rfl, fun W hS => ?_⟩) ⟨HDR.out, fun h => by cases h⟩ ?_
                · simp [execOp, Act.eval, go_sem, show W.cell? ⟨g, 0, none⟩ = some _ from (HRD.out W hS.1).1, show W.cell? ⟨g, 1, none⟩ = some _ from (HRD.out W hS.1).2]
                refine wpAnyN_step (i := 1) (by kernel_rfl) rfl (by kernel_rfl) ?_
                intro K' hK
                try simp only [Act.put]
                go_simp
                refine (refEnd12_any A1 c1 bsk ek _).mono ?_
                rw [HEE.out]
                rintro e w2 ⟨rfl, hb2⟩
                have HB2 := Lib.hid (HDR.out.trans hb2)
                clear hb2
                refine hK.out _ _ HB2.out (fun h => absurd h (by decide)) ?_
                refine wpAnyN_step (i := 2) (by kernel_rfl) rfl (by kernel_rfl) ?_
                intro K' hK
                try simp only [Act.put]
                go_simp
                refine hK.out _ _ HB2.out (fun h => absurd h (by decide)) ?_
                refine wpAnyN_step (i := 3) (by kernel_rfl) rfl (by kernel_rfl) ?_
                intro K' hK
                try simp only [Act.put]
                go_simp
                refine hK.out _ _ HB2.out (fun h => absurd h (by decide)) ?_
                refine wpAnyN_take false (i := 4) (v := .agg (repA ⟨n1, q, n3, xs.map fun n : Nat => (n : Int)⟩ (.slice Av xs.length cv))) rfl (by kernel_rfl) (by kernel_rfl) (by kernel_rfl) (fun _ _ _ h => h) (.inl ⟨by kernel_rfl, fun W hS => ?_⟩) ⟨HB2.out, fun h => by cases h⟩ ?_
                · simp [execOp, Act.eval, go_sem, show W.cell? ⟨rb, 0, none⟩ = some _ from (HRP.out W hS.1).1, show W.cell? ⟨rb, 1, none⟩ = some _ from (HRP.out W hS.1).2.1, show W.cell? ⟨rb, 2, none⟩ = some _ from (HRP.out W hS.1).2.2.1, show W.cell? ⟨rb, 3, none⟩ = some _ from (HRP.out W hS.1).2.2.2]
                refine wpAnyN_step (i := 5) (by kernel_rfl) rfl (by kernel_rfl) ?_
                intro K' hK
                try simp only [Act.put]
                go_simp
                refine (refRight_any ⟨n1, q, n3, xs.map fun n : Nat => (n : Int)⟩ _ w2 (HIA.out _ HB2.out)).mono ?_
                rw [HRT.out]
                rintro e w3 ⟨rfl, hb3⟩
                have HB3 := Lib.hid (HB2.out.trans (hb3.mono HB2.out.size))
                clear hb3
                refine hK.out _ _ HB3.out (fun h => absurd h (by decide)) ?_
                refine wpAnyN_step (i := 6) (by kernel_rfl) rfl (by kernel_rfl) ?_
                intro K' hK
                try simp only [Act.put]
                go_simp
                refine hK.out _ _ HB3.out (fun h => absurd h (by decide)) ?_
                refine wpAnyN_step (i := 7) (by kernel_rfl) rfl (by kernel_rfl) ?_
                intro K' hK
                try simp only [Act.put]
                go_simp
                refine hK.out _ _ HB3.out (fun h => absurd h (by decide)) ?_
                refine wpAnyN_step (i := 8) (by kernel_rfl) rfl (by kernel_rfl) ?_
                intro K' hK
                try simp only [Act.put]
                go_simp
                refine hK.out _ _ HB3.out (fun h => absurd h (by decide)) ?_
                refine wpAnyN_take false (i := 9) (v := undef) rfl (by kernel_rfl) (by kernel_rfl) (by kernel_rfl) (fun _ _ _ h => h) (.inr ⟨by kernel_rfl, rfl⟩) ⟨HB3.out, fun h => by cases h⟩ ?_
                refine wpAnyN_take false (i := 10) (v := undef) rfl (by kernel_rfl) (by kernel_rfl) (by kernel_rfl) (fun _ _ _ h => h) (.inr ⟨by kernel_rfl, rfl⟩) ⟨HB3.out, fun h => by cases h⟩ ?_
                refine wpAnyN_take false (i := 11) (v := undef) rfl (by kernel_rfl) (by kernel_rfl) (by kernel_rfl) (fun _ _ _ h => h) (.inr ⟨by kernel_rfl, rfl⟩) ⟨HB3.out, fun h => by cases h⟩ ?_
                refine wpAnyN_take false (i := 12) (v := undef) rfl (by kernel_rfl) (by kernel_rfl) (by kernel_rfl) (fun _ _ _ h => h) (.inr ⟨by kernel_rfl, rfl⟩) ⟨HB3.out, fun h => by cases h⟩ ?_
                refine wpAnyN_take false (i := 13) (v := undef) rfl (by kernel_rfl) (by kernel_rfl) (by kernel_rfl) (fun _ _ _ h => h) (.inr ⟨by kernel_rfl, rfl⟩) ⟨HB3.out, fun h => by cases h⟩ ?_
                refine wpAnyN_take false (i := 14) (v := undef) rfl (by kernel_rfl) (by kernel_rfl) (by kernel_rfl) (fun _ _ _ h => h) (.inr ⟨by kernel_rfl, rfl⟩) ⟨HB3.out, fun h => by cases h⟩ ?_
                refine wpAnyN_step (i := 15) (by kernel_rfl) rfl (by kernel_rfl) ?_
                intro K' hK
                try simp only [Act.put]
                go_simp
                refine hK.out _ _ HB3.out (fun h => absurd h (by decide)) ?_
                refine wpAnyN_done (by kernel_rfl) ?_
                try simp only [Act.put]
                try go_simp
                clear K' hK
                have hs := (HTT.out.keep HRO.out HB3.out).s
                obtain ⟨z0, z1, z2, z3⟩ := hs.z.cells
                have fz := hs.z.frozen
                have HD := Lib.hid (hs.z.all zeroR (.slice none 0 0))
                have HBF := Lib.hid ((((hs.below.setCell (p := ⟨n, 0, none⟩) (Nat.le_refl _) (.int .i64 0)).setCell (p := ⟨n, 1, none⟩) (Nat.le_refl _) (.bool false)).setCell (p := ⟨n, 2, none⟩) (Nat.le_refl _) (.int .i64 0)).setCell (p := ⟨n, 3, none⟩) (Nat.le_refl _) (.slice none 0 0))
                clear hs
                try dsimp only
                repeat go_step
                refine bodyPost_ret (v := .tuple #[.agg (repA zeroR (.slice none 0 0)), .bool false]) (results_row_tmp2 rfl _ _ n _ _ _ _ rfl HD.out Try.underlying25 rfl (Try.sizeRep _ _) _ rfl) rfl ?_
                exact ⟨zeroR, false, _, rfl, HNO.out, IntsAt.nil _, by rw [HNN.out]; exact HBF.out⟩
            · have HNO := Lib.hid (HNOO2.out (.inl hE))
              have hE' : (E != 0) = true := by simpa using hE
              clear hE hsm
              go_wp2_with fail
              have HDR := Lib.hid (show Below wr.heap.size wr wr.drew from below_drewN (Below.refl _ _) 1)
              refine wp_region_N (S1 := fun W => Below wr.heap.size wr W) (S2 := fun _ => True) (N := fun _ => false) (by kernel_rfl) ?_
              change wpAnyN _ _ _ _ _ _ _ 16 (Array.replicate 16 false) _ _
              refine wpAnyN_take false (i := 0) (v := .agg #[.slice A1 bsk.length c1, .int .i64 ek]) rfl (by kernel_rfl) (by kernel_rfl) (by kernel_rfl) (fun _ _ _ h => h) (.inl ⟨by kernel_rfl, fun W hS => ?_⟩) ⟨HDR.out, fun h => by cases h⟩ ?_
              · simp [execOp, Act.eval, go_sem, show W.cell? ⟨g, 0, none⟩ = some _ from (HRD.out W hS.1).1, show W.cell? ⟨g, 1, none⟩ = some _ from (HRD.out W hS.1).2]
              refine wpAnyN_step (i := 1) (by kernel_rfl) rfl (by kernel_rfl) ?_
              intro K' hK
              try simp only [Act.put]
              go_simp
              refine (refEnd12_any A1 c1 bsk ek _).mono ?_
              rw [HEE.out]
              rintro e w2 ⟨rfl, hb2⟩
              have HB2 := Lib.hid (HDR.out.trans hb2)
              clear hb2
              refine hK.out _ _ HB2.out (fun h => absurd h (by decide)) ?_
              refine wpAnyN_step (i := 2) (by kernel_rfl) rfl (by kernel_rfl) ?_
              intro K' hK
              try simp only [Act.put]
              go_simp
              refine hK.out _ _ HB2.out (fun h => absurd h (by decide)) ?_
              refine wpAnyN_step (i := 3) (by kernel_rfl) rfl (by kernel_rfl) ?_
              intro K' hK
              try simp only [Act.put]
              go_simp
              refine hK.out _ _ HB2.out (fun h => absurd h (by decide)) ?_
              refine wpAnyN_take false (i := 4) (v := undef) rfl (by kernel_rfl) (by kernel_rfl) (by kernel_rfl) (fun _ _ _ h => h) (.inr ⟨by kernel_rfl, rfl⟩) ⟨HB2.out, fun h => by cases h⟩ ?_
              refine wpAnyN_take false (i := 5) (v := undef) rfl (by kernel_rfl) (by kernel_rfl) (by kernel_rfl) (fun _ _ _ h => h) (.inr ⟨by kernel_rfl, rfl⟩) ⟨HB2.out, fun h => by cases h⟩ ?_
              refine wpAnyN_take false (i := 6) (v := undef) rfl (by kernel_rfl) (by kernel_rfl) (by kernel_rfl) (fun _ _ _ h => h) (.inr ⟨by kernel_rfl, rfl⟩) ⟨HB2.out, fun h => by cases h⟩ ?_
              refine wpAnyN_step (i := 7) (by kernel_rfl) rfl (by kernel_rfl) ?_
              intro K' hK
              try simp only [Act.put]
              go_simp
              refine hK.out _ _ HB2.out (fun h => absurd h (by decide)) ?_
              refine wpAnyN_step (i := 8) (by kernel_rfl) rfl (by kernel_rfl) ?_
              intro K' hK
              try simp only [Act.put]
              go_simp
              refine hK.out _ _ HB2.out (fun h => absurd h (by decide)) ?_
              refine wpAnyN_take false (i := 9) (v := undef) rfl (by kernel_rfl) (by kernel_rfl) (by kernel_rfl) (fun _ _ _ h => h) (.inr ⟨by kernel_rfl, rfl⟩) ⟨HB2.out, fun h => by cases h⟩ ?_
              refine wpAnyN_take false (i := 10) (v := undef) rfl (by kernel_rfl) (by kernel_rfl) (by kernel_rfl) (fun _ _ _ h => h) (.inr ⟨by kernel_rfl, rfl⟩) ⟨HB2.out, fun h => by cases h⟩ ?_
              refine wpAnyN_take false (i := 11) (v := undef) rfl (by kernel_rfl) (by kernel_rfl) (by kernel_rfl) (fun _ _ _ h => h) (.inr ⟨by kernel_rfl, rfl⟩) ⟨HB2.out, fun h => by cases h⟩ ?_
              refine wpAnyN_take false (i := 12) (v := undef) rfl (by kernel_rfl) (by kernel_rfl) (by kernel_rfl) (fun _ _ _ h => h) (.inr ⟨by kernel_rfl, rfl⟩) ⟨HB2.out, fun h => by cases h⟩ ?_
              refine wpAnyN_take false (i := 13) (v := undef) rfl (by kernel_rfl) (by kernel_rfl) (by kernel_rfl) (fun _ _ _ h => h) (.inr ⟨by kernel_rfl, rfl⟩) ⟨HB2.out, fun h => by cases h⟩ ?_
              refine wpAnyN_take false (i := 14) (v := undef) rfl (by kernel_rfl) (by kernel_rfl) (by kernel_rfl) (fun _ _ _ h => h) (.inr ⟨by kernel_rfl, rfl⟩) ⟨HB2.out, fun h => by cases h⟩ ?_
              refine wpAnyN_step (i := 15) (by kernel_rfl) rfl (by kernel_rfl) ?_
              intro K' hK
              try simp only [Act.put]
              go_simp
              refine hK.out _ _ HB2.out (fun h => absurd h (by decide)) ?_
              refine wpAnyN_done (by kernel_rfl) ?_
              try simp only [Act.put]
              try go_simp
              clear K' hK
              have hs := (HTT.out.keep HRO.out HB2.out).s
              obtain ⟨z0, z1, z2, z3⟩ := hs.z.cells
              have fz := hs.z.frozen
              have HD := Lib.hid (hs.z.all zeroR (.slice none 0 0))
              have HBF := Lib.hid ((((hs.below.setCell (p := ⟨n, 0, none⟩) (Nat.le_refl _) (.int .i64 0)).setCell (p := ⟨n, 1, none⟩) (Nat.le_refl _) (.bool false)).setCell (p := ⟨n, 2, none⟩) (Nat.le_refl _) (.int .i64 0)).setCell (p := ⟨n, 3, none⟩) (Nat.le_refl _) (.slice none 0 0))
              clear hs
              try dsimp only
              repeat go_step
              refine bodyPost_ret (v := .tuple #[.agg (repA zeroR (.slice none 0 0)), .bool false]) (results_row_tmp2 rfl _ _ n _ _ _ _ rfl HD.out Try.underlying25 rfl (Try.sizeRep _ _) _ rfl) rfl ?_
              exact ⟨zeroR, false, _, rfl, HNO.out, IntsAt.nil _, by rw [HNN.out]; exact HBF.out⟩
          · have hltz : ¬ (k : Int) < (cn : Int) := by omega
            by_cases hE : E = 0
            · subst hE
              cases hr : rightB ⟨n1, q, n3, xs.map fun n : Nat => (n : Int)⟩ with
              | true =>
                have HRT := Lib.hid hr
                have HFT := Lib.hid (show FitR ⟨n1, q, n3, xs.map fun n : Nat => (n : Int)⟩ from ⟨hr, hsm⟩)
                by_cases hen : encR ⟨n1, q, n3, xs.map fun n : Nat => (n : Int)⟩ = bs
                · have HDY := Lib.hid (HYES2.out hr hen)
                  have e5 := text_beq (p := true) (encR_byte _) HVB.out (by rw [hen]; simp)
                  have e6 : ((textOf (encR ⟨n1, q, n3, xs.map fun n : Nat => (n : Int)⟩)).toList != (textOf bs).toList) = false := by simp [bne, e5]
                  clear hr hen hsm
                  go_wp2_with fail
                  have HDR := Lib.hid (show Below wr.heap.size wr wr.drew from below_drewN (Below.refl _ _) 1)
                  refine wp_region_N (S1 := fun W => Below wr.heap.size wr W) (S2 := fun _ => True) (N := fun _ => false) (by kernel_rfl) ?_
                  change wpAnyN _ _ _ _ _ _ _ 16 (Array.replicate 16 false) _ _
                  refine wpAnyN_take false (i := 0) (v := .agg #[.slice A1 bsk.length c1, .int .i64 ek]) rfl (by kernel_rfl) (by kernel_rfl) (by kernel_rfl) (fun _ _ _ h => h) (.inl ⟨by kernel_rfl, fun W hS => ?_⟩) ⟨HDR.out, fun h => by cases h⟩ ?_
                  · simp [execOp, Act.eval, go_sem, show W.cell? ⟨g, 0, none⟩ = some _ from (HRD.out W hS.1).1, show W.cell? ⟨g, 1, none⟩ = some _ from (HRD.out W hS.1).2]
                  refine wpAnyN_step (i := 1) (by kernel_rfl) rfl (by kernel_rfl) ?_
                  intro K' hK
                  try simp only [Act.put]
                  go_simp
                  refine (refEnd12_any A1 c1 bsk ek _).mono ?_
                  rw [HEE.out]
                  rintro e w2 ⟨rfl, hb2⟩
                  have HB2 := Lib.hid (HDR.out.trans hb2)
                  clear hb2
                  refine hK.out _ _ HB2.out (fun h => absurd h (by decide)) ?_
                  refine wpAnyN_step (i := 2) (by kernel_rfl) rfl (by kernel_rfl) ?_
                  intro K' hK
                  try simp only [Act.put]
                  go_simp
                  refine hK.out _ _ HB2.out (fun h => absurd h (by decide)) ?_
                  refine wpAnyN_step (i := 3) (by kernel_rfl) rfl (by kernel_rfl) ?_
                  intro K' hK
                  try simp only [Act.put]
                  go_simp
                  refine hK.out _ _ HB2.out (fun h => absurd h (by decide)) ?_
                  refine wpAnyN_take false (i := 4) (v := .agg (repA ⟨n1, q, n3, xs.map fun n : Nat => (n : Int)⟩ (.slice Av xs.length cv))) rfl (by kernel_rfl) (by kernel_rfl) (by kernel_rfl) (fun _ _ _ h => h) (.inl ⟨by kernel_rfl, fun W hS => ?_⟩) ⟨HB2.out, fun h => by cases h⟩ ?_
                  · simp [execOp, Act.eval, go_sem, show W.cell? ⟨rb, 0, none⟩ = some _ from (HRP.out W hS.1).1, show W.cell? ⟨rb, 1, none⟩ = some _ from (HRP.out W hS.1).2.1, show W.cell? ⟨rb, 2, none⟩ = some _ from (HRP.out W hS.1).2.2.1, show W.cell? ⟨rb, 3, none⟩ = some _ from (HRP.out W hS.1).2.2.2]
                  refine wpAnyN_step (i := 5) (by kernel_rfl) rfl (by kernel_rfl) ?_
                  intro K' hK
                  try simp only [Act.put]
                  go_simp
                  refine (refRight_any ⟨n1, q, n3, xs.map fun n : Nat => (n : Int)⟩ _ w2 (HIA.out _ HB2.out)).mono ?_
                  rw [HRT.out]
                  rintro e w3 ⟨rfl, hb3⟩
                  have HB3 := Lib.hid (HB2.out.trans (hb3.mono HB2.out.size))
                  clear hb3
                  refine hK.out _ _ HB3.out (fun h => absurd h (by decide)) ?_
                  refine wpAnyN_step (i := 6) (by kernel_rfl) rfl (by kernel_rfl) ?_
                  intro K' hK
                  try simp only [Act.put]
                  go_simp
                  refine hK.out _ _ HB3.out (fun h => absurd h (by decide)) ?_
                  refine wpAnyN_step (i := 7) (by kernel_rfl) rfl (by kernel_rfl) ?_
                  intro K' hK
                  try simp only [Act.put]
                  go_simp
                  refine hK.out _ _ HB3.out (fun h => absurd h (by decide)) ?_
                  refine wpAnyN_step (i := 8) (by kernel_rfl) rfl (by kernel_rfl) ?_
                  intro K' hK
                  try simp only [Act.put]
                  go_simp
                  refine hK.out _ _ HB3.out (fun h => absurd h (by decide)) ?_
                  refine wpAnyN_take false (i := 12) (v := .slice A bs.length c) rfl (by kernel_rfl) (by kernel_rfl) (by kernel_rfl) (fun _ _ _ h => h) (.inl ⟨by kernel_rfl, fun W hS => ?_⟩) ⟨HB3.out, fun h => by cases h⟩ ?_
                  · simp [execOp, Act.eval, go_sem]
                  refine wpAnyN_take false (i := 13) (v := .string (textOf bs)) rfl (by kernel_rfl) (by kernel_rfl) (by kernel_rfl) (fun _ _ _ h => h) (.inl ⟨by kernel_rfl, fun W hS => ?_⟩) ⟨HB3.out, fun h => by cases h⟩ ?_
                  · simp [execOp, Act.eval, Act.put, go_sem, conv_text (P := Try.prog) (dst := 9) (HVW.out W hS.1) Try.underlying27 Try.underlying5 Try.underlying9]
                  refine wpAnyN_take false (i := 9) (v := .agg (repA ⟨n1, q, n3, xs.map fun n : Nat => (n : Int)⟩ (.slice Av xs.length cv))) rfl (by kernel_rfl) (by kernel_rfl) (by kernel_rfl) (fun _ _ _ h => h) (.inl ⟨by kernel_rfl, fun W hS => ?_⟩) ⟨HB3.out, fun h => by cases h⟩ ?_
                  · simp [execOp, Act.eval, Act.put, go_sem, show W.cell? ⟨rb, 0, none⟩ = some _ from (HRP.out W hS.1).1, show W.cell? ⟨rb, 1, none⟩ = some _ from (HRP.out W hS.1).2.1, show W.cell? ⟨rb, 2, none⟩ = some _ from (HRP.out W hS.1).2.2.1, show W.cell? ⟨rb, 3, none⟩ = some _ from (HRP.out W hS.1).2.2.2]
                  refine wpAnyN_step (i := 10) (by kernel_rfl) rfl (by kernel_rfl) ?_
                  intro K' hK
                  try simp only [Act.put]
                  go_simp
                  refine (refEncode_any ⟨n1, q, n3, xs.map fun n : Nat => (n : Int)⟩ _ w3 (HIA.out _ HB3.out) HFT.out).mono ?_
                  rintro e w4 ⟨v4, rfl, ho4, hb4⟩
                  have e4 := conv_text (P := Try.prog) (dst := 9) ho4.bytes Try.underlying27 Try.underlying5 Try.underlying9
                  have HB4 := Lib.hid (HB3.out.trans (hb4.mono HB3.out.size))
                  clear ho4 hb4
                  refine hK.out _ _ HB4.out (fun h => absurd h (by decide)) ?_
                  refine wpAnyN_step (i := 11) (by kernel_rfl) rfl (by kernel_rfl) ?_
                  intro K' hK
                  try simp only [Act.put]
                  go_simp
                  refine hK.out _ _ HB4.out (fun h => absurd h (by decide)) ?_
                  clear e4
                  refine wpAnyN_step (i := 14) (by kernel_rfl) rfl (by kernel_rfl) ?_
                  intro K' hK
                  try simp only [Act.put]
                  go_simp
                  refine hK.out _ _ HB4.out (fun h => absurd h (by decide)) ?_
                  refine wpAnyN_step (i := 15) (by kernel_rfl) rfl (by kernel_rfl) ?_
                  intro K' hK
                  try simp only [Act.put]
                  go_simp
                  refine hK.out _ _ HB4.out (fun h => absurd h (by decide)) ?_
                  refine wpAnyN_done (by kernel_rfl) ?_
                  try simp only [Act.put]
                  try go_simp
                  clear K' hK
                  have hs := HTT.out.keep HRO.out HB4.out
                  obtain ⟨c0, c1', c2, c3⟩ := hs.rep.cells
                  obtain ⟨z0, z1, z2, z3⟩ := hs.s.z.cells
                  have fz := hs.s.z.frozen
                  have HD := Lib.hid (show RepAt ((((w4.setCell ⟨n, 0, none⟩ (.int .i64 n1)).setCell ⟨n, 1, none⟩ (.bool q)).setCell ⟨n, 2, none⟩ (.int .i64 n3)).setCell ⟨n, 3, none⟩ (.slice Av xs.length cv)) n ⟨n1, q, n3, xs.map fun n : Nat => (n : Int)⟩ (.slice Av xs.length cv) from hs.s.z.all ⟨n1, q, n3, xs.map fun n : Nat => (n : Int)⟩ (.slice Av xs.length cv))
                  have HBF := Lib.hid ((((hs.s.below.setCell (p := ⟨n, 0, none⟩) (Nat.le_refl _) (.int .i64 n1)).setCell (p := ⟨n, 1, none⟩) (Nat.le_refl _) (.bool q)).setCell (p := ⟨n, 2, none⟩) (Nat.le_refl _) (.int .i64 n3)).setCell (p := ⟨n, 3, none⟩) (Nat.le_refl _) (.slice Av xs.length cv))
                  have HIN := Lib.hid (((HOW.out.keep HB4.out).moved (apart_all (b := n) (.int .i64 n1) (.bool q) (.int .i64 n3) (.slice Av xs.length cv)) (by have := HRO.out.a; have := HRO.out.b; have := HRO.out.c; omega)).ints (by have := HXL.out; omega))
                  clear hs
                  try dsimp only
                  repeat go_step
                  refine bodyPost_ret (v := .tuple #[.agg (repA ⟨n1, q, n3, xs.map fun n : Nat => (n : Int)⟩ (.slice Av xs.length cv)), .bool true]) (results_row_tmp2 rfl _ _ n _ _ _ _ rfl HD.out Try.underlying25 rfl (Try.sizeRep _ _) _ rfl) rfl ?_
                  exact ⟨_, true, _, rfl, HDY.out, HIN.out, by rw [HNN.out]; exact HBF.out⟩
                · have HNO := Lib.hid (HNOO2.out (.inr (.inr hen)))
                  have e5 := text_beq (p := false) (encR_byte ⟨n1, q, n3, xs.map fun n : Nat => (n : Int)⟩) HVB.out (by simp [hen])
                  have e6 : ((textOf (encR ⟨n1, q, n3, xs.map fun n : Nat => (n : Int)⟩)).toList != (textOf bs).toList) = true := by simp [bne, e5]
                  clear hr hen hsm
                  go_wp2_with fail
                  have HDR := Lib.hid (show Below wr.heap.size wr wr.drew from below_drewN (Below.refl _ _) 1)
                  refine wp_region_N (S1 := fun W => Below wr.heap.size wr W) (S2 := fun _ => True) (N := fun _ => false) (by kernel_rfl) ?_
                  change wpAnyN _ _ _ _ _ _ _ 16 (Array.replicate 16 false) _ _
                  refine wpAnyN_take false (i := 0) (v := .agg #[.slice A1 bsk.length c1, .int .i64 ek]) rfl (by kernel_rfl) (by kernel_rfl) (by kernel_rfl) (fun _ _ _ h => h) (.inl ⟨by kernel_rfl, fun W hS => ?_⟩) ⟨HDR.out, fun h => by cases h⟩ ?_
                  · simp [execOp, Act.eval, go_sem, show W.cell? ⟨g, 0, none⟩ = some _ from (HRD.out W hS.1).1, show W.cell? ⟨g, 1, none⟩ = some _ from (HRD.out W hS.1).2]
                  refine wpAnyN_step (i := 1) (by kernel_rfl) rfl (by kernel_rfl) ?_
                  intro K' hK
                  try simp only [Act.put]
                  go_simp
                  refine (refEnd12_any A1 c1 bsk ek _).mono ?_
                  rw [HEE.out]
                  rintro e w2 ⟨rfl, hb2⟩
                  have HB2 := Lib.hid (HDR.out.trans hb2)
                  clear hb2
                  refine hK.out _ _ HB2.out (fun h => absurd h (by decide)) ?_
                  refine wpAnyN_step (i := 2) (by kernel_rfl) rfl (by kernel_rfl) ?_
                  intro K' hK
                  try simp only [Act.put]
                  go_simp
                  refine hK.out _ _ HB2.out (fun h => absurd h (by decide)) ?_
                  refine wpAnyN_step (i := 3) (by kernel_rfl) rfl (by kernel_rfl) ?_
                  intro K' hK
                  try simp only [Act.put]
                  go_simp
                  refine hK.out _ _ HB2.out (fun h => absurd h (by decide)) ?_
                  refine wpAnyN_take false (i := 4) (v := .agg (repA ⟨n1, q, n3, xs.map fun n : Nat => (n : Int)⟩ (.slice Av xs.length cv))) rfl (by kernel_rfl) (by kernel_rfl) (by kernel_rfl) (fun _ _ _ h => h) (.inl ⟨by kernel_rfl, fun W hS => ?_⟩) ⟨HB2.out, fun h => by cases h⟩ ?_
                  · simp [execOp, Act.eval, go_sem, show W.cell? ⟨rb, 0, none⟩ = some _ from (HRP.out W hS.1).1, show W.cell? ⟨rb, 1, none⟩ = some _ from (HRP.out W hS.1).2.1, show W.cell? ⟨rb, 2, none⟩ = some _ from (HRP.out W hS.1).2.2.1, show W.cell? ⟨rb, 3, none⟩ = some _ from (HRP.out W hS.1).2.2.2]
                  refine wpAnyN_step (i := 5) (by kernel_rfl) rfl (by kernel_rfl) ?_
                  intro K' hK
                  try simp only [Act.put]
                  go_simp
                  refine (refRight_any ⟨n1, q, n3, xs.map fun n : Nat => (n : Int)⟩ _ w2 (HIA.out _ HB2.out)).mono ?_
                  rw [HRT.out]
                  rintro e w3 ⟨rfl, hb3⟩
                  have HB3 := Lib.hid (HB2.out.trans (hb3.mono HB2.out.size))
                  clear hb3
                  refine hK.out _ _ HB3.out (fun h => absurd h (by decide)) ?_
                  refine wpAnyN_step (i := 6) (by kernel_rfl) rfl (by kernel_rfl) ?_
                  intro K' hK
                  try simp only [Act.put]
                  go_simp
                  refine hK.out _ _ HB3.out (fun h => absurd h (by decide)) ?_
                  refine wpAnyN_step (i := 7) (by kernel_rfl) rfl (by kernel_rfl) ?_
                  intro K' hK
                  try simp only [Act.put]
                  go_simp
                  refine hK.out _ _ HB3.out (fun h => absurd h (by decide)) ?_
                  refine wpAnyN_step (i := 8) (by kernel_rfl) rfl (by kernel_rfl) ?_
                  intro K' hK
                  try simp only [Act.put]
                  go_simp
                  refine hK.out _ _ HB3.out (fun h => absurd h (by decide)) ?_
                  refine wpAnyN_take false (i := 12) (v := .slice A bs.length c) rfl (by kernel_rfl) (by kernel_rfl) (by kernel_rfl) (fun _ _ _ h => h) (.inl ⟨by kernel_rfl, fun W hS => ?_⟩) ⟨HB3.out, fun h => by cases h⟩ ?_
                  · simp [execOp, Act.eval, go_sem]
                  refine wpAnyN_take false (i := 13) (v := .string (textOf bs)) rfl (by kernel_rfl) (by kernel_rfl) (by kernel_rfl) (fun _ _ _ h => h) (.inl ⟨by kernel_rfl, fun W hS => ?_⟩) ⟨HB3.out, fun h => by cases h⟩ ?_
                  · simp [execOp, Act.eval, Act.put, go_sem, conv_text (P := Try.prog) (dst := 9) (HVW.out W hS.1) Try.underlying27 Try.underlying5 Try.underlying9]
                  refine wpAnyN_take false (i := 9) (v := .agg (repA ⟨n1, q, n3, xs.map fun n : Nat => (n : Int)⟩ (.slice Av xs.length cv))) rfl (by kernel_rfl) (by kernel_rfl) (by kernel_rfl) (fun _ _ _ h => h) (.inl ⟨by kernel_rfl, fun W hS => ?_⟩) ⟨HB3.out, fun h => by cases h⟩ ?_
                  · simp [execOp, Act.eval, Act.put, go_sem, show W.cell? ⟨rb, 0, none⟩ = some _ from (HRP.out W hS.1).1, show W.cell? ⟨rb, 1, none⟩ = some _ from (HRP.out W hS.1).2.1, show W.cell? ⟨rb, 2, none⟩ = some _ from (HRP.out W hS.1).2.2.1, show W.cell? ⟨rb, 3, none⟩ = some _ from (HRP.out W hS.1).2.2.2]
                  refine wpAnyN_step (i := 10) (by kernel_rfl) rfl (by kernel_rfl) ?_
                  intro K' hK
                  try simp only [Act.put]
                  go_simp
                  refine (refEncode_any ⟨n1, q, n3, xs.map fun n : Nat => (n : Int)⟩ _ w3 (HIA.out _ HB3.out) HFT.out).mono ?_
                  rintro e w4 ⟨v4, rfl, ho4, hb4⟩
                  have e4 := conv_text (P := Try.prog) (dst := 9) ho4.bytes Try.underlying27 Try.underlying5 Try.underlying9
                  have HB4 := Lib.hid (HB3.out.trans (hb4.mono HB3.out.size))
                  clear ho4 hb4
                  refine hK.out _ _ HB4.out (fun h => absurd h (by decide)) ?_
                  refine wpAnyN_step (i := 11) (by kernel_rfl) rfl (by kernel_rfl) ?_
                  intro K' hK
                  try simp only [Act.put]
                  go_simp
                  refine hK.out _ _ HB4.out (fun h => absurd h (by decide)) ?_
                  clear e4
                  refine wpAnyN_step (i := 14) (by kernel_rfl) rfl (by kernel_rfl) ?_
                  intro K' hK
                  try simp only [Act.put]
                  go_simp
                  refine hK.out _ _ HB4.out (fun h => absurd h (by decide)) ?_
                  refine wpAnyN_step (i := 15) (by kernel_rfl) rfl (by kernel_rfl) ?_
                  intro K' hK
                  try simp only [Act.put]
                  go_simp
                  refine hK.out _ _ HB4.out (fun h => absurd h (by decide)) ?_
                  refine wpAnyN_done (by kernel_rfl) ?_
                  try simp only [Act.put]
                  try go_simp
                  clear K' hK
                  have hs := (HTT.out.keep HRO.out HB4.out).s
                  obtain ⟨z0, z1, z2, z3⟩ := hs.z.cells
                  have fz := hs.z.frozen
                  have HD := Lib.hid (hs.z.all zeroR (.slice none 0 0))
                  have HBF := Lib.hid ((((hs.below.setCell (p := ⟨n, 0, none⟩) (Nat.le_refl _) (.int .i64 0)).setCell (p := ⟨n, 1, none⟩) (Nat.le_refl _) (.bool false)).setCell (p := ⟨n, 2, none⟩) (Nat.le_refl _) (.int .i64 0)).setCell (p := ⟨n, 3, none⟩) (Nat.le_refl _) (.slice none 0 0))
                  clear hs
                  try dsimp only
                  repeat go_step
                  refine bodyPost_ret (v := .tuple #[.agg (repA zeroR (.slice none 0 0)), .bool false]) (results_row_tmp2 rfl _ _ n _ _ _ _ rfl HD.out Try.underlying25 rfl (Try.sizeRep _ _) _ rfl) rfl ?_
                  exact ⟨zeroR, false, _, rfl, HNO.out, IntsAt.nil _, by rw [HNN.out]; exact HBF.out⟩
              | false =>
                have HNO := Lib.hid (HNOO2.out (.inr (.inl hr)))
                have HRT := Lib.hid hr
                clear hr hsm
                go_wp2_with fail
                have HDR := Lib.hid (show Below wr.heap.size wr wr.drew from below_drewN (Below.refl _ _) 1)
                refine wp_region_N (S1 := fun W => Below wr.heap.size wr W) (S2 := fun _ => True) (N := fun _ => false) (by kernel_rfl) ?_
                change wpAnyN _ _ _ _ _ _ _ 16 (Array.replicate 16 false) _ _
                refine wpAnyN_take false (i := 0) (v := .agg #[.slice A1 bsk.length c1, .int .i64 ek]) rfl (by kernel_rfl) (by kernel_rfl) (by kernel_rfl) (fun _ _ _ h => h) (.inl ⟨by kernel_rfl, fun W hS => ?_⟩) ⟨HDR.out, fun h => by cases h⟩ ?_
                · simp [execOp, Act.eval, go_sem, show W.cell? ⟨g, 0, none⟩ = some _ from (HRD.out W hS.1).1, show W.cell? ⟨g, 1, none⟩ = some _ from (HRD.out W hS.1).2]
                refine wpAnyN_step (i := 1) (by kernel_rfl) rfl (by kernel_rfl) ?_
                intro K' hK
                try simp only [Act.put]
                go_simp
                refine (refEnd12_any A1 c1 bsk ek _).mono ?_
                rw [HEE.out]
                rintro e w2 ⟨rfl, hb2⟩
                have HB2 := Lib.hid (HDR.out.trans hb2)
                clear hb2
                refine hK.out _ _ HB2.out (fun h => absurd h (by decide)) ?_
                refine wpAnyN_step (i := 2) (by kernel_rfl) rfl (by kernel_rfl) ?_
                intro K' hK
                try simp only [Act.put]
                go_simp
                refine hK.out _ _ HB2.out (fun h => absurd h (by decide)) ?_
                refine wpAnyN_step (i := 3) (by kernel_rfl) rfl (by kernel_rfl) ?_
                intro K' hK
                try simp only [Act.put]
                go_simp
                refine hK.out _ _ HB2.out (fun h => absurd h (by decide)) ?_
                refine wpAnyN_take false (i := 4) (v := .agg (repA ⟨n1, q, n3, xs.map fun n : Nat => (n : Int)⟩ (.slice Av xs.length cv))) rfl (by kernel_rfl) (by kernel_rfl) (by kernel_rfl) (fun _ _ _ h => h) (.inl ⟨by kernel_rfl, fun W hS => ?_⟩) ⟨HB2.out, fun h => by cases h⟩ ?_
                · simp [execOp, Act.eval, go_sem, show W.cell? ⟨rb, 0, none⟩ = some _ from (HRP.out W hS.1).1, show W.cell? ⟨rb, 1, none⟩ = some _ from (HRP.out W hS.1).2.1, show W.cell? ⟨rb, 2, none⟩ = some _ from (HRP.out W hS.1).2.2.1, show W.cell? ⟨rb, 3, none⟩ = some _ from (HRP.out W hS.1).2.2.2]
                refine wpAnyN_step (i := 5) (by kernel_rfl) rfl (by kernel_rfl) ?_
                intro K' hK
                try simp only [Act.put]
                go_simp
                refine (refRight_any ⟨n1, q, n3, xs.map fun n : Nat => (n : Int)⟩ _ w2 (HIA.out _ HB2.out)).mono ?_
                rw [HRT.out]
                rintro e w3 ⟨rfl, hb3⟩
                have HB3 := Lib.hid (HB2.out.trans (hb3.mono HB2.out.size))
                clear hb3
                refine hK.out _ _ HB3.out (fun h => absurd h (by decide)) ?_
                refine wpAnyN_step (i := 6) (by kernel_rfl) rfl (by kernel_rfl) ?_
                intro K' hK
                try simp only [Act.put]
                go_simp
                refine hK.out _ _ HB3.out (fun h => absurd h (by decide)) ?_
                refine wpAnyN_step (i := 7) (by kernel_rfl) rfl (by kernel_rfl) ?_
                intro K' hK
                try simp only [Act.put]
                go_simp
                refine hK.out _ _ HB3.out (fun h => absurd h (by decide)) ?_
                refine wpAnyN_step (i := 8) (by kernel_rfl) rfl (by kernel_rfl) ?_
                intro K' hK
                try simp only [Act.put]
                go_simp
                refine hK.out _ _ HB3.out (fun h => absurd h (by decide)) ?_
                refine wpAnyN_take false (i := 9) (v := undef) rfl (by kernel_rfl) (by kernel_rfl) (by kernel_rfl) (fun _ _ _ h => h) (.inr ⟨by kernel_rfl, rfl⟩) ⟨HB3.out, fun h => by cases h⟩ ?_
                refine wpAnyN_take false (i := 10) (v := undef) rfl (by kernel_rfl) (by kernel_rfl) (by kernel_rfl) (fun _ _ _ h => h) (.inr ⟨by kernel_rfl, rfl⟩) ⟨HB3.out, fun h => by cases h⟩ ?_
                refine wpAnyN_take false (i := 11) (v := undef) rfl (by kernel_rfl) (by kernel_rfl) (by kernel_rfl) (fun _ _ _ h => h) (.inr ⟨by kernel_rfl, rfl⟩) ⟨HB3.out, fun h => by cases h⟩ ?_
                refine wpAnyN_take false (i := 12) (v := undef) rfl (by kernel_rfl) (by kernel_rfl) (by kernel_rfl) (fun _ _ _ h => h) (.inr ⟨by kernel_rfl, rfl⟩) ⟨HB3.out, fun h => by cases h⟩ ?_
                refine wpAnyN_take false (i := 13) (v := undef) rfl (by kernel_rfl) (by kernel_rfl) (by kernel_rfl) (fun _ _ _ h => h) (.inr ⟨by kernel_rfl, rfl⟩) ⟨HB3.out, fun h => by cases h⟩ ?_
                refine wpAnyN_take false (i := 14) (v := undef) rfl (by kernel_rfl) (by kernel_rfl) (by kernel_rfl) (fun _ _ _ h => h) (.inr ⟨by kernel_rfl, rfl⟩) ⟨HB3.out, fun h => by cases h⟩ ?_
                refine wpAnyN_step (i := 15) (by kernel_rfl) rfl (by kernel_rfl) ?_
                intro K' hK
                try simp only [Act.put]
                go_simp
                refine hK.out _ _ HB3.out (fun h => absurd h (by decide)) ?_
                refine wpAnyN_done (by kernel_rfl) ?_
                try simp only [Act.put]
                try go_simp
                clear K' hK
                have hs := (HTT.out.keep HRO.out HB3.out).s
                obtain ⟨z0, z1, z2, z3⟩ := hs.z.cells
                have fz := hs.z.frozen
                have HD := Lib.hid (hs.z.all zeroR (.slice none 0 0))
                have HBF := Lib.hid ((((hs.below.setCell (p := ⟨n, 0, none⟩) (Nat.le_refl _) (.int .i64 0)).setCell (p := ⟨n, 1, none⟩) (Nat.le_refl _) (.bool false)).setCell (p := ⟨n, 2, none⟩) (Nat.le_refl _) (.int .i64 0)).setCell (p := ⟨n, 3, none⟩) (Nat.le_refl _) (.slice none 0 0))
                clear hs
                try dsimp only
                repeat go_step
                refine bodyPost_ret (v := .tuple #[.agg (repA zeroR (.slice none 0 0)), .bool false]) (results_row_tmp2 rfl _ _ n _ _ _ _ rfl HD.out Try.underlying25 rfl (Try.sizeRep _ _) _ rfl) rfl ?_
                exact ⟨zeroR, false, _, rfl, HNO.out, IntsAt.nil _, by rw [HNN.out]; exact HBF.out⟩
            · have HNO := Lib.hid (HNOO2.out (.inl hE))
              have hE' : (E != 0) = true := by simpa using hE
              clear hE hsm
              go_wp2_with fail
              have HDR := Lib.hid (show Below wr.heap.size wr wr.drew from below_drewN (Below.refl _ _) 1)
              refine wp_region_N (S1 := fun W => Below wr.heap.size wr W) (S2 := fun _ => True) (N := fun _ => false) (by kernel_rfl) ?_
              change wpAnyN _ _ _ _ _ _ _ 16 (Array.replicate 16 false) _ _
              refine wpAnyN_take false (i := 0) (v := .agg #[.slice A1 bsk.length c1, .int .i64 ek]) rfl (by kernel_rfl) (by kernel_rfl) (by kernel_rfl) (fun _ _ _ h => h) (.inl ⟨by kernel_rfl, fun W hS => ?_⟩) ⟨HDR.out, fun h => by cases h⟩ ?_
              · simp [execOp, Act.eval, go_sem, show W.cell? ⟨g, 0, none⟩ = some _ from (HRD.out W hS.1).1, show W.cell? ⟨g, 1, none⟩ = some _ from (HRD.out W hS.1).2]
              refine wpAnyN_step (i := 1) (by kernel_rfl) rfl (by kernel_rfl) ?_
              intro K' hK
              try simp only [Act.put]
              go_simp
              refine (refEnd12_any A1 c1 bsk ek _).mono ?_
              rw [HEE.out]
              rintro e w2 ⟨rfl, hb2⟩
              have HB2 := Lib.hid (HDR.out.trans hb2)
              clear hb2
              refine hK.out _ _ HB2.out (fun h => absurd h (by decide)) ?_
              refine wpAnyN_step (i := 2) (by kernel_rfl) rfl (by kernel_rfl) ?_
              intro K' hK
              try simp only [Act.put]
              go_simp
              refine hK.out _ _ HB2.out (fun h => absurd h (by decide)) ?_
              refine wpAnyN_step (i := 3) (by kernel_rfl) rfl (by kernel_rfl) ?_
              intro K' hK
              try simp only [Act.put]
              go_simp
              refine hK.out _ _ HB2.out (fun h => absurd h (by decide)) ?_
              refine wpAnyN_take false (i := 4) (v := undef) rfl (by kernel_rfl) (by kernel_rfl) (by kernel_rfl) (fun _ _ _ h => h) (.inr ⟨by kernel_rfl, rfl⟩) ⟨HB2.out, fun h => by cases h⟩ ?_
              refine wpAnyN_take false (i := 5) (v := undef) rfl (by kernel_rfl) (by kernel_rfl) (by kernel_rfl) (fun _ _ _ h => h) (.inr ⟨by kernel_rfl, rfl⟩) ⟨HB2.out, fun h => by cases h⟩ ?_
              refine wpAnyN_take false (i := 6) (v := undef) rfl (by kernel_rfl) (by kernel_rfl) (by kernel_rfl) (fun _ _ _ h => h) (.inr ⟨by kernel_rfl, rfl⟩) ⟨HB2.out, fun h => by cases h⟩ ?_
              refine wpAnyN_step (i := 7) (by kernel_rfl) rfl (by kernel_rfl) ?_
              intro K' hK
              try simp only [Act.put]
              go_simp
              refine hK.out _ _ HB2.out (fun h => absurd h (by decide)) ?_
              refine wpAnyN_step (i := 8) (by kernel_rfl) rfl (by kernel_rfl) ?_
              intro K' hK
              try simp only [Act.put]
              go_simp
              refine hK.out _ _ HB2.out (fun h => absurd h (by decide)) ?_
              refine wpAnyN_take false (i := 9) (v := undef) rfl (by kernel_rfl) (by kernel_rfl) (by kernel_rfl) (fun _ _ _ h => h) (.inr ⟨by kernel_rfl, rfl⟩) ⟨HB2.out, fun h => by cases h⟩ ?_
              refine wpAnyN_take false (i := 10) (v := undef) rfl (by kernel_rfl) (by kernel_rfl) (by kernel_rfl) (fun _ _ _ h => h) (.inr ⟨by kernel_rfl, rfl⟩) ⟨HB2.out, fun h => by cases h⟩ ?_
              refine wpAnyN_take false (i := 11) (v := undef) rfl (by kernel_rfl) (by kernel_rfl) (by kernel_rfl) (fun _ _ _ h => h) (.inr ⟨by kernel_rfl, rfl⟩) ⟨HB2.out, fun h => by cases h⟩ ?_
              refine wpAnyN_take false (i := 12) (v := undef) rfl (by kernel_rfl) (by kernel_rfl) (by kernel_rfl) (fun _ _ _ h => h) (.inr ⟨by kernel_rfl, rfl⟩) ⟨HB2.out, fun h => by cases h⟩ ?_
              refine wpAnyN_take false (i := 13) (v := undef) rfl (by kernel_rfl) (by kernel_rfl) (by kernel_rfl) (fun _ _ _ h => h) (.inr ⟨by kernel_rfl, rfl⟩) ⟨HB2.out, fun h => by cases h⟩ ?_
              refine wpAnyN_take false (i := 14) (v := undef) rfl (by kernel_rfl) (by kernel_rfl) (by kernel_rfl) (fun _ _ _ h => h) (.inr ⟨by kernel_rfl, rfl⟩) ⟨HB2.out, fun h => by cases h⟩ ?_
              refine wpAnyN_step (i := 15) (by kernel_rfl) rfl (by kernel_rfl) ?_
              intro K' hK
              try simp only [Act.put]
              go_simp
              refine hK.out _ _ HB2.out (fun h => absurd h (by decide)) ?_
              refine wpAnyN_done (by kernel_rfl) ?_
              try simp only [Act.put]
              try go_simp
              clear K' hK
              have hs := (HTT.out.keep HRO.out HB2.out).s
              obtain ⟨z0, z1, z2, z3⟩ := hs.z.cells
              have fz := hs.z.frozen
              have HD := Lib.hid (hs.z.all zeroR (.slice none 0 0))
              have HBF := Lib.hid ((((hs.below.setCell (p := ⟨n, 0, none⟩) (Nat.le_refl _) (.int .i64 0)).setCell (p := ⟨n, 1, none⟩) (Nat.le_refl _) (.bool false)).setCell (p := ⟨n, 2, none⟩) (Nat.le_refl _) (.int .i64 0)).setCell (p := ⟨n, 3, none⟩) (Nat.le_refl _) (.slice none 0 0))
              clear hs
              try dsimp only
              repeat go_step
              refine bodyPost_ret (v := .tuple #[.agg (repA zeroR (.slice none 0 0)), .bool false]) (results_row_tmp2 rfl _ _ n _ _ _ _ rfl HD.out Try.underlying25 rfl (Try.sizeRep _ _) _ rfl) rfl ?_
              exact ⟨zeroR, false, _, rfl, HNO.out, IntsAt.nil _, by rw [HNN.out]; exact HBF.out⟩
end Go.Proofs.Ytkkaekcjinopkaa
