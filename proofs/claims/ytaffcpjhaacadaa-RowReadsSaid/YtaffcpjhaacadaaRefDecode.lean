/-
  The document's Decode.
  Conditions: no more than 2000 bytes.
-/
import Derived.Test.YtaffcpjhaacadaaReadRow
import Derived.Test.YtaffcpjhaacadaaRight
import Derived.Test.YtaffcpjhaacadaaRefEncode
import Derived.Test.YtaffcpjhaacadaaRefRead
import Derived.Test.YtaffcpjhaacadaaDecode
set_option linter.unusedVariables false
namespace Go.Proofs.Ytaffcpjhaacadaa
open Go.RowKit

theorem encW_byte (m : Int) (R : List (List Int)) : ∀ x ∈ encW m R, x < 256 := by
  intro x hx
  obtain ⟨n, _, hn⟩ := List.mem_flatMap.1 hx
  exact enc_bytes n x hn

theorem refNum_all (B : Nat) (A : Option Addr) (n c : Nat) (bs : List Nat) (e : Int) (most : Nat) (w : World) (hB : B ≤ w.heap.size) (hvi : BytesIn B w (.slice A n c) bs) (hl : bs.length ≤ 100000) (hm : most < 18446744073709551616) :
    Calls Try.prog 30 #[.agg #[.slice A n c, .int .i64 e], .int .u64 most] w (RefP B (numT bs e most) w) := by
  by_cases h : e = 0
  · subst h
    exact refRead_any B _ bs most w hB hvi hl hm
  · exact refFailed_any B A n c bs e most w hB hvi h

set_option maxRecDepth 100000 in
set_option maxHeartbeats 1000000 in
theorem refEnd13_any (A : Option Addr) (c : Nat) (bs : List Nat) (e : Int) (w : World) : Calls Try.prog 31 #[.agg #[.slice A bs.length c, .int .i64 e]] w (RetB (.int .i64 (endI bs e)) w) := by
  have HB := Lib.hid (below_new (W := w) (.cells #[.slice A bs.length c, .int .i64 e] 59))
  obtain ⟨r0, r1, _, _⟩ := two_cells (World.alloc_heap_new w (.cells #[.slice A bs.length c, .int .i64 e] 59))
  go_enter Try.func31, Try.ntmps31
  go_upto_region 1 with fail
  generalize w.alloc (.cells #[.slice A bs.length c, .int .i64 e] 59) = w1 at *
  have HE := Lib.hid (show endI bs e = if e = 0 ∧ 0 < bs.length then 3 else e from rfl)
  generalize endI bs e = R at *
  generalize bs.length = n at *
  by_cases h0 : e = 0
  · subst h0
    by_cases hp : 0 < n
    · have hpz : (0 : Int) < (n : Int) := by omega
      have HR := Lib.hid (show (3 : Int) = R by rw [HE.out, if_pos ⟨rfl, hp⟩])
      clear HE hp
      go_wp2_with fail
      go_ret
      exact ⟨ret_int HR.out, HB.out⟩
    · have hpz : ¬ (0 : Int) < (n : Int) := by omega
      have HR := Lib.hid (show (0 : Int) = R by rw [HE.out, if_neg (fun h => hp h.2)])
      clear HE hp
      go_wp2_with fail
      go_ret
      exact ⟨ret_int HR.out, HB.out⟩
  · have h0' : (e == 0) = false := by simpa using h0
    have HR := Lib.hid (show e = R by rw [HE.out, if_neg (fun h => h0 h.1)])
    clear HE h0
    go_wp2_with fail
    go_ret
    exact ⟨ret_int HR.out, HB.out⟩

/-- The document's reader lies in block g; its bytes lie below it. -/
structure RefS (g : Nat) (w : World) (bs : List Nat) (e : Int) (W : World) : Prop where
  rd : ∃ A l c, W.heap[g]? = some (.cells #[.slice A l c, .int .i64 e] 59 (0, 0)) ∧ BytesIn g W (.slice A l c) bs
  below : Below g w W
theorem RefS.size {g : Nat} {w : World} {bs : List Nat} {e : Int} {W : World} (h : RefS g w bs e W) : g < W.heap.size := by
  obtain ⟨A, l, c, h1, _⟩ := h.rd
  exact heap_lt h1
theorem RefS.stay {g base : Nat} {w W W' : World} {bs : List Nat} {e : Int} (h : RefS g w bs e W) (hg : g < base) (hb : Below base W W') : RefS g w bs e W' := by
  obtain ⟨A, l, c, h1, h2⟩ := h.rd
  exact ⟨⟨A, l, c, (hb.block g hg).trans h1, h2.keep (hb.mono (by omega))⟩, ⟨hb.os.trans h.below.os, hb.tape.trans h.below.tape, hb.output.trans h.below.output, Nat.le_trans h.below.size hb.size, fun k hk => (hb.block k (by omega)).trans (h.below.block k hk)⟩⟩
theorem RefS.keep {g : Nat} {w W W' : World} {bs : List Nat} {e : Int} (h : RefS g w bs e W) (hb : Below W.heap.size W W') : RefS g w bs e W' := h.stay h.size hb
theorem RefS.next {g : Nat} {w W : World} {bs bs' : List Nat} {e e' : Int} (h : RefS g w bs e W) {A : Option Addr} {l c : Nat} (hv : BytesIn g W (.slice A l c) bs') :
    RefS g w bs' e' ((W.setCell ⟨g, 0, none⟩ (.slice A l c)).setCell ⟨g, 1, none⟩ (.int .i64 e')) := by
  obtain ⟨A0, l0, c0, h1, _⟩ := h.rd
  refine ⟨⟨A, l, c, two_set h1 _ _, hv.keep ?_⟩, below_two h.below (Nat.le_refl _) _ _⟩
  exact ((Below.refl g W).setCell (p := ⟨g, 0, none⟩) (Nat.le_refl _) _).setCell (p := ⟨g, 1, none⟩) (Nat.le_refl _) _
theorem apart_two {F : Nat → Prop} {W0 W : World} {g : Nat} (h : Apart F W0 W) (hg : F g) (c d : Value) : Apart F W0 ((W.setCell ⟨g, 0, none⟩ c).setCell ⟨g, 1, none⟩ d) :=
  (h.set (p := ⟨g, 0, none⟩) (.inl hg) c).set (p := ⟨g, 1, none⟩) (.inl hg) d
theorem OwnK.two {K : IntKind} {T : TypeId} {W : World} {base g : Nat} {v : Value} {xs : List Nat} (h : OwnK K T W base v xs) (hg : g < base) (c d : Value) : OwnK K T ((W.setCell ⟨g, 0, none⟩ c).setCell ⟨g, 1, none⟩ d) base v xs :=
  h.apart (apart_two (Apart.refl (fun k => k = g) W) rfl c d) (fun k hk e => by have := h.base k hk; omega)
theorem RowsOwn.two {W : World} {base g : Nat} {v : Value} {ls : List (Value × List Int)} (h : RowsOwn W base v ls) (hg : g < base) (c d : Value) : RowsOwn ((W.setCell ⟨g, 0, none⟩ c).setCell ⟨g, 1, none⟩ d) base v ls :=
  h.apart (apart_two (Apart.refl (fun k => k = g) W) rfl c d) (fun k hk e => by omega)

theorem no_dec {m c : Nat} {bs : List Nat} {R : List (List Int)} {b : List Nat} {e : Int} (h : Fits m c bs R b e) (hs : e ≠ 0 ∨ c ≤ R.length) (hbad : endI b e ≠ 0 ∨ rightW m R = false ∨ encW m R ≠ bs) : NoDec bs := by
  by_cases he : e = 0
  · intro n S h1 h2
    obtain ⟨rfl, rfl, h3⟩ := fits_end h (by rcases hs with h | h; exact absurd he h; exact h) h1 h2
    rcases hbad with h | h | h
    · exact h h3
    · rw [rightW_iff.2 h1] at h; cases h
    · exact h h2
  · exact fits_err h he

/-- What the document's Decode answers. -/
def RefDecP (bs : List Nat) (w : World) (e : Ending) (w' : World) : Prop :=
  ∃ m v ok ls, e = .returned (.tuple #[.int .i64 m, v, .bool ok]) ∧ IsDec bs m (rowsOf ls) ok ∧ RowsAt w' v ls ∧ Below w.heap.size w w'

def RefDecRel (g m c : Nat) (bs : List Nat) (w : World) (gg : Nat) (s7 s8 : Value) (wr : World) : Prop :=
  ∃ (ls : List (Value × List Int)) (b : List Nat) (e : Int), ls.length ≤ c ∧ gg = c - ls.length ∧ s7 = .int .u64 ((c - ls.length : Nat) : Int) ∧ RowsOwn wr (g + 1) s8 ls ∧ RefS g w b e wr ∧ Fits m c bs (rowsOf ls) b e ∧ b.length ≤ bs.length

set_option maxRecDepth 100000 in
set_option maxHeartbeats 4000000 in
theorem refDecode_any (v : Value) (bs : List Nat) (w : World) (hv : BytesAt w v bs) (hl : bs.length ≤ 100000) : Calls Try.prog 14 #[v] w (RefDecP bs w) := by
  obtain ⟨A, c, hvf⟩ : ∃ A c, v = .slice A bs.length c := by obtain ⟨A, c, h, _⟩ := hv; exact ⟨A, c, h⟩
  subst hvf
  have hb2 := below_new (W := w) (.cells #[.slice A bs.length c, .int .i64 0] 59)
  have hr2 := World.alloc_heap_new w (.cells #[.slice A bs.length c, .int .i64 0] 59)
  have HWA := Lib.hid hb2
  have HS2 := Lib.hid (show RefS w.heap.size w bs 0 (w.alloc (.cells #[.slice A bs.length c, .int .i64 0] 59)) from ⟨⟨A, bs.length, c, hr2, hv.within.keep hb2⟩, hb2⟩)
  have HVI := Lib.hid (show BytesIn w.heap.size w (.slice A bs.length c) bs from hv.within)
  have HVB := Lib.hid hv.bytes
  have HFS := Lib.hid (fits_start (bs := bs))
  obtain ⟨n1, bs1, e1, t1⟩ : ∃ n b e, numT bs 0 16 = (n, b, e) := ⟨_, _, _, rfl⟩
  rw [t1] at HFS
  simp only at HFS
  obtain ⟨n2, bs2, e2, t2⟩ : ∃ n b e, numT bs1 e1 4096 = (n, b, e) := ⟨_, _, _, rfl⟩
  rw [t2] at HFS
  simp only at HFS
  have l1 : n1 ≤ 16 := by have := numT_le bs 0 16; rwa [t1] at this
  have l2 : n2 ≤ 4096 := by have := numT_le bs1 e1 4096; rwa [t2] at this
  have HL1 := Lib.hid (show bs1.length ≤ bs.length by have := numT_len bs 0 16; rwa [t1] at this)
  have HL2 := Lib.hid (show bs2.length ≤ bs.length by have := numT_len bs1 e1 4096; rw [t2] at this; exact Nat.le_trans this HL1.out)
  have HT1 := Lib.hid t1
  have HT2 := Lib.hid t2
  have HLB := Lib.hid hl
  obtain ⟨g, hg⟩ : ∃ g, g = w.heap.size := ⟨_, rfl⟩
  have HG0 := Lib.hid hg
  rw [← hg] at hr2 HS2 HVI
  clear hv t1 t2 hb2 hl
  go_enter Try.func14, Try.ntmps14
  go_upto_region 2 with fail
  rw [← hg]
  clear hg
  generalize w.alloc (.cells #[.slice A bs.length c, .int .i64 0] 59) = w2 at *
  obtain ⟨r0, r1, f0, f1⟩ := two_cells hr2
  have HGN := Lib.hid (show g ≤ w2.heap.size by have := HS2.out.size; omega)
  have hv2 : BytesIn g w2 (.slice A bs.length c) bs := HVI.out.keep HS2.out.below
  have HN3 := Lib.hid (refNum_all g A bs.length c bs 0 16 w2 HGN.out hv2 HLB.out (by decide))
  rw [HT1.out] at HN3
  clear hr2 hv2
  go_wp2_with fail
  refine HN3.out.mono ?_
  rintro e w3 ⟨v3, rfl, hv3, hb3⟩
  clear r0 r1 f0 f1
  obtain ⟨A3, k3, c3, hv3f⟩ : ∃ A l c, v3 = .slice A l c := by obtain ⟨A, c, h, _⟩ := hv3; exact ⟨A, _, c, h⟩
  subst hv3f
  simp only
  have hs3 := HS2.out.keep hb3
  obtain ⟨_, _, _, hg3, _⟩ := hs3.rd
  obtain ⟨z0, z1, z2, z3⟩ := two_cells hg3
  have HS4 := Lib.hid (hs3.next (bs' := bs1) (e' := e1) hv3)
  clear hs3 hb3 hg3 hv3
  go_upto_region 3 with fail
  generalize (w3.setCell ⟨g, 0, none⟩ (.slice A3 k3 c3)).setCell ⟨g, 1, none⟩ (.int .i64 e1) = w4 at *
  clear z0 z1 z2 z3
  obtain ⟨A4, k4, c4, hg4, hv4⟩ := HS4.out.rd
  obtain ⟨r0, r1, f0, f1⟩ := two_cells hg4
  have HGN4 := Lib.hid (show g ≤ w4.heap.size by have := HS4.out.size; omega)
  have HN5 := Lib.hid (refNum_all g A4 k4 c4 bs1 e1 4096 w4 HGN4.out hv4 (Nat.le_trans HL1.out HLB.out) (by decide))
  rw [HT2.out] at HN5
  clear hg4 hv4
  go_wp2_with fail
  refine HN5.out.mono ?_
  rintro e w5 ⟨v5, rfl, hv5, hb5⟩
  clear r0 r1 f0 f1
  obtain ⟨A5, k5, c5, hv5f⟩ : ∃ A l c, v5 = .slice A l c := by obtain ⟨A, c, h, _⟩ := hv5; exact ⟨A, _, c, h⟩
  subst hv5f
  simp only
  have hs5 := HS4.out.keep hb5
  obtain ⟨_, _, _, hg5, _⟩ := hs5.rd
  obtain ⟨z0, z1, z2, z3⟩ := two_cells hg5
  have HS6 := Lib.hid (hs5.next (bs' := bs2) (e' := e2) hv5)
  clear hs5 hb5 hg5 hv5
  go_upto_region 4 with fail
  generalize (w5.setCell ⟨g, 0, none⟩ (.slice A5 k5 c5)).setCell ⟨g, 1, none⟩ (.int .i64 e2) = w6 at *
  clear z0 z1 z2 z3
  have hb7 := below_new (W := w6) (.cells #[] 39)
  have HS7 := Lib.hid (HS6.out.keep hb7)
  have HO7 := Lib.hid (show RowsOwn (w6.alloc (.cells #[] 39)) (g + 1) (.slice (some ⟨w6.heap.size, 0, none⟩) 0 0) [] from
    ⟨World.ownsRow_lit (base := g + 1) (e := 39) (size := 1) w6 #[] 0 HS6.out.size (by unfold maxLen; omega) rfl, fun p hp => by cases hp⟩)
  clear hb7
  go_wp2_with fail
  go_loopg [7, 8] n2 (fun gg s7 s8 wr => RefDecRel g n1 n2 bs w gg s7 s8 wr)
  case atStart => exact ⟨[], bs2, e2, Nat.zero_le _, rfl, rfl, HO7.out, HS7.out, HFS.out, HL2.out⟩
  case round =>
    obtain ⟨ls, bk, ek, hlc, hgg, rfl, hown, hsr, hfk, hbl⟩ := hrel
    have hrl := rowsOf_length ls
    obtain ⟨A8, c8, rfl⟩ := hown.form
    obtain ⟨n, hn⟩ : ∃ n, n = ls.length := ⟨_, rfl⟩
    rw [← hn] at hlc hgg hown hrl ⊢
    have HN := Lib.hid hn
    obtain ⟨D, hD⟩ : ∃ D, D = n2 - n := ⟨_, rfl⟩
    rw [← hD]
    have HDN := Lib.hid hD
    have hDc : D ≤ n2 := by omega
    have HG := Lib.hid hgg
    have HOW := Lib.hid hown
    have HSR := Lib.hid hsr
    have HFK := Lib.hid hfk
    have HBL := Lib.hid hbl
    have HRL := Lib.hid hrl
    obtain ⟨A1, k1, c1, hg1, hv1⟩ := hsr.rd
    have hk1 : k1 = bk.length := by obtain ⟨_, _, h, _⟩ := hv1; injection h
    subst hk1
    obtain ⟨r0, r1, f0, f1⟩ := two_cells hg1
    have HV1 := Lib.hid hv1
    obtain ⟨GO, hGO⟩ : ∃ GO : Bool, GO = decide (0 < D ∧ ek = 0) := ⟨_, rfl⟩
    have HGO := Lib.hid hGO
    clear hgg hown hsr hfk hbl hn hD hv1 hGO hrl
    go_upto_region 5 with fail
    go_cut [35] from 29 to 35 (fun s35 wx => s35 = .bool GO ∧ wx = wr)
    case first =>
      by_cases hd0 : 0 < D
      · have hd0z : (0 : Int) < (D : Int) := by omega
        by_cases he0 : ek = 0
        · have hb := Lib.hid (show true = GO by rw [HGO.out]; exact (decide_eq_true ⟨hd0, he0⟩).symm)
          have he0z : (ek == 0) = true := by simpa using he0
          clear he0
          go_wp2_with fail
          go_meet
          exact ⟨by rw [← hb.out], rfl⟩
        · have hb := Lib.hid (show false = GO by rw [HGO.out]; exact (decide_eq_false (fun h => he0 h.2)).symm)
          have he0z : (ek == 0) = false := by simpa using he0
          clear he0
          go_wp2_with fail
          go_meet
          exact ⟨by rw [← hb.out], rfl⟩
      · have hd0z : ¬ (0 : Int) < (D : Int) := by omega
        have hb := Lib.hid (show false = GO by rw [HGO.out]; exact (decide_eq_false (fun h => hd0 h.1)).symm)
        go_wp2_with fail
        go_meet
        exact ⟨by rw [← hb.out], rfl⟩
    case rest =>
      obtain ⟨rfl, rfl⟩ := hcut
      cases GO with
      | true =>
        obtain ⟨hd0, he0⟩ := of_decide_eq_true HGO.out.symm
        have HD0 := Lib.hid hd0
        subst he0
        have hltn : (rowsOf ls).length < n2 := by rw [HRL.out]; have := HDN.out; omega
        have HZ := Lib.hid (fun h0 => fits_zero HFK.out hltn h0)
        have HST := Lib.hid (fits_step HFK.out hltn)
        rw [HRL.out, ← HDN.out] at HZ HST
        have hTl := numT_le bk 0 D
        have hBl := numT_len bk 0 D
        obtain ⟨N, bn, en, hT⟩ : ∃ n b e, numT bk 0 D = (n, b, e) := ⟨_, _, _, rfl⟩
        have hRT := Lib.hid (show rowT n1 D bk 0 = (rdL 200 bn en n1).1.map fun n : Nat => (n : Int) by unfold rowT; rw [hT])
        have HNUM := Lib.hid (refNum_all g A1 bk.length c1 bk 0 D wc (by have := HSR.out.size; omega) HV1.out (by have := HBL.out; have := HLB.out; omega) (by omega))
        rw [hT] at HZ HST HNUM hTl hBl
        have hND : N ≤ D := hTl
        have HBN := Lib.hid (show bn.length ≤ bs.length by have := HBL.out; exact Nat.le_trans hBl this)
        have HGW := Lib.hid (show g + 1 ≤ wc.heap.size from HSR.out.size)
        clear hT hTl hBl hltn
        go_wp2_with fail
        refine HNUM.out.mono ?_
        rintro e w2 ⟨v2, rfl, hv2, hb2⟩
        clear r0 r1 f0 f1
        obtain ⟨A2, k2, c2, hv2f⟩ : ∃ A l c, v2 = .slice A l c := by obtain ⟨A, c, h, _⟩ := hv2; exact ⟨A, _, c, h⟩
        subst hv2f
        simp only
        have hb3 := below_new (W := w2) (.cells #[.slice A2 k2 c2, .int .i64 en] 59)
        have hr3 := World.alloc_heap_new w2 (.cells #[.slice A2 k2 c2, .int .i64 en] 59)
        have HS3 := Lib.hid ((HSR.out.keep hb2).keep hb3)
        have HO3 := Lib.hid ((HOW.out.keep hb2).keep hb3)
        have HV3 := Lib.hid (hv2.keep (hb3.mono (Nat.le_trans (Nat.le_of_lt HGW.out) hb2.size)))
        have HGNE := Lib.hid (show w2.heap.size ≠ g by have := HGW.out; have := hb2.size; omega)
        clear hb2 hv2 hb3
        go_upto_region 7 with fail
        generalize w2.alloc (.cells #[.slice A2 k2 c2, .int .i64 en] 59) = w3 at *
        obtain ⟨r0, r1, _, _⟩ := two_cells hr3
        obtain ⟨_, _, _, hg3, _⟩ := HS3.out.rd
        obtain ⟨z0, z1, z2, z3⟩ := two_cells hg3
        have HS4 := Lib.hid (HS3.out.next (bs' := bn) (e' := en) HV3.out)
        have HO4 := Lib.hid (HO3.out.two (g := g) (Nat.lt_succ_self _) (.slice A2 k2 c2) (.int .i64 en))
        clear hr3 hg3
        go_upto_region 8 with fail
        generalize (w3.setCell ⟨g, 0, none⟩ (.slice A2 k2 c2)).setCell ⟨g, 1, none⟩ (.int .i64 en) = w4 at *
        clear r0 r1 z0 z1 z2 z3
        have hb5 := below_new (W := w4) (.cells #[] 3)
        have hsz5 := World.size_alloc w4 (.cells #[] 3)
        obtain ⟨b2, hb2d⟩ : ∃ b2, b2 = w4.heap.size := ⟨_, rfl⟩
        have HB2 := Lib.hid hb2d
        have HGB2 := Lib.hid (show g < b2 by rw [hb2d]; exact HS4.out.size)
        have HS5 := Lib.hid (HS4.out.keep hb5)
        have HO5 := Lib.hid (HO4.out.keep hb5)
        have HLT5 := Lib.hid (show ∀ k, (Value.slice A8 n c8).ownBlock = some k → k < b2 from fun k hk => by rw [hb2d]; exact (HO4.out.lt k hk).2)
        have HA5 := Lib.hid (Apart.of_below (F := fun k => k = g) hb5)
        have HK5 := Lib.hid (show OwnK .i64 3 (w4.alloc (.cells #[] 3)) b2 (.slice (some ⟨w4.heap.size, 0, none⟩) 0 0) [] from
          World.ownsRow_lit (base := b2) (e := 3) (size := 1) w4 #[] 0 (by omega) (by unfold maxLen; omega) rfl)
        clear hb5 hsz5 hb2d
        go_wp2_with fail
        go_loopg [11, 12] n1 (fun g2 s11 s12 wr2 => ∃ k : Nat, k ≤ n1 ∧ g2 = n1 - k ∧ s12 = .int .u64 k ∧ OwnK .i64 3 wr2 b2 s11 (rdL 200 bn en k).1 ∧ RefS g w (rdL 200 bn en k).2.1 (rdL 200 bn en k).2.2 wr2 ∧ Apart (fun k => k = g) w4 wr2)
        case atStart => exact ⟨0, Nat.zero_le _, rfl, rfl, HK5.out, HS5.out, HA5.out⟩
        case round =>
          obtain ⟨k, hk, hg2, rfl, hownk, hsk, hak⟩ := hrel
          have HG2 := Lib.hid hg2
          have HOK := Lib.hid hownk
          have HSK := Lib.hid hsk
          have HAK := Lib.hid hak
          have HXL := Lib.hid (rdL_length 200 bn en k)
          have HXB := Lib.hid (rdL_len 200 bn en k)
          clear hg2 hownk hak
          by_cases hlt : k < n1
          · have hltz : (k : Int) < (n1 : Int) := by omega
            have hx1 : rdL 200 bn en (k + 1) = ((rdL 200 bn en k).1 ++ [(numT (rdL 200 bn en k).2.1 (rdL 200 bn en k).2.2 200).1], (numT (rdL 200 bn en k).2.1 (rdL 200 bn en k).2.2 200).2) := rfl
            have hyl := numT_le (rdL 200 bn en k).2.1 (rdL 200 bn en k).2.2 200
            generalize rdL 200 bn en k = RK at *
            obtain ⟨xs, bk2, ek2⟩ := RK
            simp only at *
            obtain ⟨Y, bsy, ey, hTK⟩ : ∃ n b e, numT bk2 ek2 200 = (n, b, e) := ⟨_, _, _, rfl⟩
            rw [hTK] at hx1 hyl
            have HX1 := Lib.hid hx1
            have hyw : IntKind.i64.wrap (Y : Int) = (Y : Int) := by rw [IntWalk.i64_in _ (by simp only at hyl; omega)]
            have hk1w : IntKind.u64.wrap ((k : Int) + 1) = ((k + 1 : Nat) : Int) := by rw [IntKind.wrap_u64]; omega
            obtain ⟨Ak, lk, ck, hgk, hvk⟩ := hsk.rd
            obtain ⟨r0, r1, _, _⟩ := two_cells hgk
            have HGK := Lib.hid (show g + 1 ≤ wr.heap.size from hsk.size)
            have HNK := Lib.hid (refNum_all g Ak lk ck bk2 ek2 200 wr (Nat.le_of_lt hsk.size) hvk (by have := HXB.out; have := HBN.out; have := HLB.out; omega) (by decide))
            rw [hTK] at HNK
            have HB2W := Lib.hid (show b2 ≤ wr.heap.size by have := HAK.out.size; have := HB2.out; omega)
            clear hx1 hTK hsk hgk hvk hyl
            go_wp2_with fail
            refine HNK.out.mono ?_
            rintro e w6 ⟨v6, rfl, hv6, hb6⟩
            clear r0 r1
            obtain ⟨A6, k6, c6, hv6f⟩ : ∃ A l c, v6 = .slice A l c := by obtain ⟨A, c, h, _⟩ := hv6; exact ⟨A, _, c, h⟩
            subst hv6f
            simp only
            have hb7 := below_new (W := w6) (.cells #[.slice A6 k6 c6, .int .i64 ey] 59)
            have hr7 := World.alloc_heap_new w6 (.cells #[.slice A6 k6 c6, .int .i64 ey] 59)
            have HS7 := Lib.hid ((HSK.out.keep hb6).keep hb7)
            have HO7 := Lib.hid ((HOK.out.keep hb6).keep hb7)
            have HA7 := Lib.hid ((HAK.out.then_below hb6 HAK.out.size).then_below hb7 (Nat.le_trans HAK.out.size hb6.size))
            have HV7 := Lib.hid (hv6.keep (hb7.mono (Nat.le_trans (Nat.le_of_lt HGK.out) hb6.size)))
            have HGNE6 := Lib.hid (show w6.heap.size ≠ g by have := HGK.out; have := hb6.size; omega)
            clear hb6 hv6 hb7
            go_upto_region 13 with fail
            generalize w6.alloc (.cells #[.slice A6 k6 c6, .int .i64 ey] 59) = w7 at *
            obtain ⟨r0, r1, _, _⟩ := two_cells hr7
            obtain ⟨_, _, _, hg7, _⟩ := HS7.out.rd
            obtain ⟨z0, z1, z2, z3⟩ := two_cells hg7
            have HS8 := Lib.hid (HS7.out.next (bs' := bsy) (e' := ey) HV7.out)
            have HO8 := Lib.hid (HO7.out.two (g := g) HGB2.out (.slice A6 k6 c6) (.int .i64 ey))
            have HA8 := Lib.hid (apart_two HA7.out rfl (.slice A6 k6 c6) (.int .i64 ey))
            clear hr7 hg7
            go_upto_region 14 with fail
            generalize (w7.setCell ⟨g, 0, none⟩ (.slice A6 k6 c6)).setCell ⟨g, 1, none⟩ (.int .i64 ey) = w8 at *
            clear r0 r1 z0 z1 z2 z3
            have HBW8 := Lib.hid (show b2 ≤ w8.heap.size by have := HA8.out.size; have := HB2.out; omega)
            have HLN8 := Lib.hid (show xs.length ≤ 1000000 by have := HXL.out; omega)
            have hb9 := below_new (W := w8) (.cells #[.int .i64 Y] 3)
            have HS9 := Lib.hid (HS8.out.keep hb9)
            have HA9 := Lib.hid (HA8.out.then_below hb9 HA8.out.size)
            have HB9 := Lib.hid (show b2 ≤ (w8.alloc (.cells #[.int .i64 Y] 3)).heap.size by have := HBW8.out; simp; omega)
            clear hb9
            go_wp2_with (at_builtin; refine wpList_append_num rfl _ _ 39 .i64 3 rfl b2 Try.underlying39 Try.infoInt _ _ rfl (HO8.out.alloc _) w8.heap.size 1 Y rfl (Boxed.new w8 3 (.int .i64 Y)).cell HLN8.out HB9.out ?_)
            intro v10 w10 hown10 hb10
            have HO10 := Lib.hid hown10
            have HS10 := Lib.hid (HS9.out.stay HGB2.out hb10)
            have HA10 := Lib.hid (HA9.out.then_below hb10 (by have := HB2.out; omega))
            clear hown10 hb10
            go_wp2_with fail
            go_roundg (n1 - (k + 1))
            case measure => have := HG2.out; omega
            case rel =>
              refine ⟨k + 1, by omega, rfl, by first | rfl | (simp; done), ?_, ?_, HA10.out⟩
              · rw [HX1.out]; exact HO10.out
              · rw [HX1.out]; exact HS10.out
          · have hltz : ¬ (k : Int) < (n1 : Int) := by omega
            have hkn : k = n1 := by omega
            subst hkn
            clear hsk
            by_cases hN0 : N = 0
            · subst hN0
              have HND := Lib.hid (HZ.out rfl)
              go_wp2_with fail
              go_ret3
              exact ⟨0, _, false, [], rfl, .inr ⟨rfl, rfl, rfl, HND.out⟩, RowsAt.nil _, by rw [← HG0.out]; exact HSK.out.below⟩
            · have hN0z : ((N : Int) == 0) = false := by simp; omega
              have HN0 := Lib.hid hN0
              clear hN0
              obtain ⟨Ao, co, rfl⟩ := HOK.out.form
              have HOI := Lib.hid (show IntsAt wr (.slice Ao (rdL 200 bn en k).1.length co) (rowT k D bk 0) by rw [hRT.out]; exact HOK.out.ints (by have := HXL.out; omega))
              have HOLT := Lib.hid (show ∀ q, (Value.slice Ao (rdL 200 bn en k).1.length co).ownBlock = some q → b2 ≤ q ∧ q < wr.heap.size from fun q hq => by
                refine ⟨HOK.out.base q hq, ?_⟩
                rcases HOK.out.cells with ⟨h, _⟩ | ⟨gg, cap, h, _, _, _, h4, _⟩
                · injection h with h _ _; subst h; cases hq
                · injection h with h _ _; subst h; injection hq with hq; have e' : gg = q := hq; omega)
              have HRW := Lib.hid (HO4.out.apart HAK.out (fun q hq e => by omega))
              have HBX := Lib.hid (Nat.le_trans HXB.out HBN.out)
              have hrtl := rowT_length k D bk 0
              generalize rowT k D bk 0 = row at *
              generalize hol : (rdL 200 bn en k).1.length = ol at *
              have HOL := Lib.hid hol
              clear hol
              go_wp2_with fail
              go_loopg [8, 15] N (fun g3 s8 s15 wr3 => ∃ j : Nat, j ≤ N ∧ g3 = N - j ∧ s15 = .int .u64 j ∧ ∃ lj, RowsOwn wr3 (g + 1) s8 lj ∧ rowsOf lj = rowsOf ls ++ List.replicate j row ∧ RefS g w (rdL 200 bn en k).2.1 (rdL 200 bn en k).2.2 wr3 ∧
                IntsAt wr3 (.slice Ao ol co) row ∧ (∀ q, s8.ownBlock = some q → (Value.slice Ao ol co).ownBlock ≠ some q) ∧ ∀ q, (Value.slice Ao ol co).ownBlock = some q → b2 ≤ q ∧ q < wr3.heap.size)
              case atStart => exact ⟨0, Nat.zero_le _, rfl, rfl, ls, HRW.out, by simp, HSK.out, HOI.out, fun q hq e => by have := (HOLT.out q e).1; have := HLT5.out q hq; omega, HOLT.out⟩
              case round =>
                obtain ⟨j, hj, hg3, rfl, lj, hown3, hrows3, hs3, hi3, hne3, hlt3⟩ := hrel
                have HG3 := Lib.hid hg3
                have HOJ := Lib.hid hown3
                have HRJ := Lib.hid hrows3
                have HSJ := Lib.hid hs3
                have HIJ := Lib.hid hi3
                have HNJ := Lib.hid hne3
                have HLJ := Lib.hid hlt3
                obtain ⟨Aj, cj, rfl⟩ := hown3.form
                have HLL := Lib.hid (show lj.length = n + j by
                  have h := congrArg List.length hrows3
                  rwa [rowsOf_length, List.length_append, List.length_replicate, HRL.out] at h)
                clear hg3 hown3 hrows3 hs3 hi3 hne3 hlt3
                by_cases hlt2 : j < N
                · have hlt2z : (j : Int) < (N : Int) := by omega
                  have hj1w : IntKind.u64.wrap ((j : Int) + 1) = ((j + 1 : Nat) : Int) := by rw [IntKind.wrap_u64]; omega
                  have hb5 := below_new (W := wr) (.cells #[.slice Ao ol co] 39)
                  have hsz5 := World.size_alloc wr (.cells #[.slice Ao ol co] 39)
                  have HO6 := Lib.hid (HOJ.out.keep hb5)
                  have HI6 := Lib.hid (HIJ.out.keep hb5)
                  have HS6 := Lib.hid (HSJ.out.keep hb5)
                  have HCELL := Lib.hid (Boxed.new wr 39 (.slice Ao ol co)).cell
                  have HUB := Lib.hid (show ∀ q, (Value.slice Ao ol co).ownBlock = some q → (Value.slice Aj lj.length cj).ownBlock ≠ some q ∧ g + 1 ≤ q ∧ q < (wr.alloc (.cells #[.slice Ao ol co] 39)).heap.size from fun q hq => by
                    have h1 := HLJ.out q hq
                    exact ⟨fun e => HNJ.out q e hq, by have := HGB2.out; omega, by rw [hsz5]; omega⟩)
                  have HLM := Lib.hid (show lj.length ≤ 1000000 by have := HLL.out; omega)
                  have HBB := Lib.hid (show g + 1 ≤ (wr.alloc (.cells #[.slice Ao ol co] 39)).heap.size by rw [hsz5]; have := HSJ.out.size; omega)
                  have HSZ := Lib.hid hsz5
                  clear hb5 hsz5
                  go_wp2_with (at_builtin; refine wpList_append_row rfl _ _ 22 rfl (g + 1) Try.underlying22 Try.infoRow _ lj rfl HO6.out wr.heap.size 1 Ao ol co row rfl HCELL.out HI6.out HUB.out HLM.out HBB.out ?_)
                  intro v7 w7 hown7 hb7 hloc7 hap7
                  have HO7 := Lib.hid hown7
                  have HS7 := Lib.hid (HS6.out.stay (Nat.lt_succ_self _) hb7)
                  have HI7 := Lib.hid (HI6.out.apart hap7 (fun q hq e => HNJ.out q e hq))
                  have HN7 := Lib.hid (show ∀ q, v7.ownBlock = some q → (Value.slice Ao ol co).ownBlock ≠ some q from fun q hq e => by
                    rcases hloc7 with h | h
                    · rw [h] at hq; exact HNJ.out q hq e
                    · rw [h] at hq
                      injection hq with hq
                      have h1 := (HLJ.out q e).2
                      have h2 := HSZ.out
                      omega)
                  have HL7 := Lib.hid (show ∀ q, (Value.slice Ao ol co).ownBlock = some q → b2 ≤ q ∧ q < w7.heap.size from fun q hq => by
                    have h1 := HLJ.out q hq
                    have h2 := HSZ.out
                    have h3 := hb7.size
                    omega)
                  clear hown7 hb7 hloc7 hap7
                  go_wp2_with fail
                  go_roundg (N - (j + 1))
                  case measure => have := HG3.out; omega
                  case rel =>
                    refine ⟨j + 1, by omega, rfl, by first | rfl | (simp; done), _, HO7.out, ?_, HS7.out, HI7.out, HN7.out, HL7.out⟩
                    rw [rowsOf_snoc, HRJ.out, List.replicate_succ', List.append_assoc]
                · have hlt2z : ¬ (j : Int) < (N : Int) := by omega
                  have hjN : j = N := by omega
                  subst hjN
                  have HFN := Lib.hid (show Fits k n2 bs (rowsOf lj) (rdL 200 bn en k).2.1 (rdL 200 bn en k).2.2 by rw [HRJ.out]; exact HST.out)
                  have hDN : (D : Int) - (j : Int) = ((D - j : Nat) : Int) := by omega
                  have hDNw : IntKind.u64.wrap ((D - j : Nat) : Int) = ((D - j : Nat) : Int) := by rw [IntKind.wrap_u64]; omega
                  obtain ⟨DJ, hDJ⟩ : ∃ DJ, DJ = D - j := ⟨_, rfl⟩
                  rw [← hDJ] at hDN hDNw
                  have HDJ := Lib.hid hDJ
                  clear hDJ
                  go_wp2_with fail
                  go_roundg (n2 - (n + j))
                  case measure => have := HG.out; have := HN0.out; have := HD0.out; have := HDN.out; omega
                  case rel =>
                    refine ⟨lj, _, _, by have := HLL.out; have := HDN.out; omega, by rw [HLL.out], ?_, HOJ.out, HSJ.out, HFN.out, HBX.out⟩
                    rw [HLL.out]
                    have h1 : n2 - (n + j) = DJ := by have := HDJ.out; have := HDN.out; omega
                    rw [h1]
      | false =>
        have hgo := of_decide_eq_false HGO.out.symm
        have HSTOP := Lib.hid (show ek ≠ 0 ∨ n2 ≤ (rowsOf ls).length by
          by_cases h : ek = 0
          · refine .inr ?_
            rw [HRL.out]
            have : ¬ 0 < D := fun h' => hgo ⟨h', h⟩
            have := HDN.out
            omega
          · exact .inl h)
        have HNOD := Lib.hid (fun h => no_dec HFK.out HSTOP.out h)
        have HRD := Lib.hid (fun W (h : Below wc.heap.size wc W) => show W.cell? ⟨g, 0, none⟩ = some (.slice A1 bk.length c1) ∧ W.cell? ⟨g, 1, none⟩ = some (.int .i64 ek) from by
          obtain ⟨a, b, _⟩ := two_cells ((h.block g (heap_lt hg1)).trans hg1)
          exact ⟨a, b⟩)
        have HRS := Lib.hid (fun W (h : Below wc.heap.size wc W) => show RowsAt W (.slice A8 n c8) ls from HOW.out.at_.keep h)
        have HVW := Lib.hid (fun W (h : Below wc.heap.size wc W) => show BytesAt W (.slice A bs.length c) bs from (HVI.out.keep (HSR.out.below.trans (h.mono (Nat.le_of_lt HSR.out.size)))).at_ (by have := HSR.out.below.size; have := h.size; have := HSR.out.size; omega))
        have HMW := Lib.hid (show IntKind.i64.wrap (n1 : Int) = (n1 : Int) by rw [IntWalk.i64_in _ (by omega)])
        obtain ⟨E, hE⟩ : ∃ E, endI bk ek = E := ⟨_, rfl⟩
        have HEE := Lib.hid hE
        rw [hE] at HNOD
        obtain ⟨BAD, hBAD⟩ : ∃ BAD : Bool, BAD = !(decide (E = 0) && (rightW n1 (rowsOf ls) && decide (encW n1 (rowsOf ls) = bs))) := ⟨_, rfl⟩
        have HBAD := Lib.hid hBAD
        clear hgo hE hBAD hg1 r0 r1 f0 f1
        go_wp2_with fail
        go_cut [93] from 74 to 93 (fun s93 wx => s93 = .bool BAD ∧ Below wc.heap.size wc wx)
        case first =>
          by_cases hE0 : E = 0
          · subst hE0
            cases hr : rightW n1 (rowsOf ls) with
            | true =>
              have HRT := Lib.hid hr
              have HFT := Lib.hid (rightW_iff.1 hr)
              have e5 := text_beq (p := decide (encW n1 (rowsOf ls) = bs)) (encW_byte (n1 : Int) (rowsOf ls)) HVB.out (by simp)
              have e6 : ((textOf (encW n1 (rowsOf ls))).toList != (textOf bs).toList) = BAD := by
                rw [HBAD.out, hr]
                simp [bne, e5]
              clear hr e5
              as_aux_lemma =>
                have HDR := Lib.hid (show Below wc.heap.size wc wc.drew from below_drewN (Below.refl _ _) 1)
                refine wp_region_N (S1 := fun W => Below wc.heap.size wc W) (S2 := fun _ => True) (N := fun _ => false) (by kernel_rfl) ?_
                change wpAnyN _ _ _ _ _ _ _ 20 (Array.replicate 20 false) _ _
                refine wpAnyN_take false (i := 0) (v := .agg #[.slice A1 bk.length c1, .int .i64 ek]) rfl (by kernel_rfl) (by kernel_rfl) (by kernel_rfl) (fun _ _ _ h => h) (.inl ⟨by kernel_rfl, fun W hS => ?_⟩) ⟨HDR.out, fun h => by cases h⟩ ?_
                · simp [execOp, Act.eval, go_sem, show W.cell? ⟨g, 0, none⟩ = some _ from (HRD.out W hS.1).1, show W.cell? ⟨g, 1, none⟩ = some _ from (HRD.out W hS.1).2]
                refine wpAnyN_step (i := 1) (by kernel_rfl) rfl (by kernel_rfl) ?_
                intro K' hK
                try simp only [Act.put]
                go_simp
                refine (refEnd13_any A1 c1 bk ek _).mono ?_
                rw [HEE.out]
                rintro e w2 ⟨rfl, hb2⟩
                have HB2 := Lib.hid (HDR.out.trans hb2)
                clear hb2
                refine hK.out _ _ HB2.out (fun h => absurd h (by decide)) ?_
                refine wpAnyN_step (i := 2) (by kernel_rfl) rfl (by kernel_rfl) ?_
                intro K' hK
                try simp only [Act.put]
                go_simp
                refine hK.out _ _ HB2.out (fun h => absurd h (by decide)) ?_
                refine wpAnyN_step (i := 3) (by kernel_rfl) rfl (by kernel_rfl) ?_
                intro K' hK
                try simp only [Act.put]
                go_simp
                refine hK.out _ _ HB2.out (fun h => absurd h (by decide)) ?_
                refine wpAnyN_take false (i := 4) (v := .int .u64 n1) rfl (by kernel_rfl) (by kernel_rfl) (by kernel_rfl) (fun _ _ _ h => h) (.inl ⟨by kernel_rfl, fun W hS => ?_⟩) ⟨HB2.out, fun h => by cases h⟩ ?_
                · simp [execOp, Act.eval, go_sem]
                refine wpAnyN_take false (i := 5) (v := .int .i64 n1) rfl (by kernel_rfl) (by kernel_rfl) (by kernel_rfl) (fun _ _ _ h => h) (.inl ⟨by kernel_rfl, fun W hS => ?_⟩) ⟨HB2.out, fun h => by cases h⟩ ?_
                · simp [execOp, Act.eval, Act.put, go_sem, HMW.out]
                refine wpAnyN_take false (i := 6) (v := .slice A8 n c8) rfl (by kernel_rfl) (by kernel_rfl) (by kernel_rfl) (fun _ _ _ h => h) (.inl ⟨by kernel_rfl, fun W hS => ?_⟩) ⟨HB2.out, fun h => by cases h⟩ ?_
                · simp [execOp, Act.eval, Act.put, go_sem]
                refine wpAnyN_step (i := 7) (by kernel_rfl) rfl (by kernel_rfl) ?_
                intro K' hK
                try simp only [Act.put]
                go_simp
                refine (refRight_any n1 _ ls w2 (HRS.out _ HB2.out)).mono ?_
                rw [HRT.out]
                rintro e w3 ⟨rfl, rfl⟩
                refine hK.out _ _ HB2.out (fun h => absurd h (by decide)) ?_
                refine wpAnyN_step (i := 8) (by kernel_rfl) rfl (by kernel_rfl) ?_
                intro K' hK
                try simp only [Act.put]
                go_simp
                refine hK.out _ _ HB2.out (fun h => absurd h (by decide)) ?_
                refine wpAnyN_step (i := 9) (by kernel_rfl) rfl (by kernel_rfl) ?_
                intro K' hK
                try simp only [Act.put]
                go_simp
                refine hK.out _ _ HB2.out (fun h => absurd h (by decide)) ?_
                refine wpAnyN_step (i := 10) (by kernel_rfl) rfl (by kernel_rfl) ?_
                intro K' hK
                try simp only [Act.put]
                go_simp
                refine hK.out _ _ HB2.out (fun h => absurd h (by decide)) ?_
                refine wpAnyN_take false (i := 16) (v := .slice A bs.length c) rfl (by kernel_rfl) (by kernel_rfl) (by kernel_rfl) (fun _ _ _ h => h) (.inl ⟨by kernel_rfl, fun W hS => ?_⟩) ⟨HB2.out, fun h => by cases h⟩ ?_
                · simp [execOp, Act.eval, go_sem]
                refine wpAnyN_take false (i := 17) (v := .string (textOf bs)) rfl (by kernel_rfl) (by kernel_rfl) (by kernel_rfl) (fun _ _ _ h => h) (.inl ⟨by kernel_rfl, fun W hS => ?_⟩) ⟨HB2.out, fun h => by cases h⟩ ?_
                · simp [execOp, Act.eval, Act.put, go_sem, conv_text (P := Try.prog) (dst := 9) (HVW.out W hS.1) Try.underlying25 Try.underlying5 Try.underlying9]
                refine wpAnyN_take false (i := 11) (v := .int .u64 n1) rfl (by kernel_rfl) (by kernel_rfl) (by kernel_rfl) (fun _ _ _ h => h) (.inl ⟨by kernel_rfl, fun W hS => ?_⟩) ⟨HB2.out, fun h => by cases h⟩ ?_
                · simp [execOp, Act.eval, Act.put, go_sem]
                refine wpAnyN_take false (i := 12) (v := .int .i64 n1) rfl (by kernel_rfl) (by kernel_rfl) (by kernel_rfl) (fun _ _ _ h => h) (.inl ⟨by kernel_rfl, fun W hS => ?_⟩) ⟨HB2.out, fun h => by cases h⟩ ?_
                · simp [execOp, Act.eval, Act.put, go_sem, HMW.out]
                refine wpAnyN_take false (i := 13) (v := .slice A8 n c8) rfl (by kernel_rfl) (by kernel_rfl) (by kernel_rfl) (fun _ _ _ h => h) (.inl ⟨by kernel_rfl, fun W hS => ?_⟩) ⟨HB2.out, fun h => by cases h⟩ ?_
                · simp [execOp, Act.eval, Act.put, go_sem]
                refine wpAnyN_step (i := 14) (by kernel_rfl) rfl (by kernel_rfl) ?_
                intro K' hK
                try simp only [Act.put]
                go_simp
                refine (refEncode_any n1 _ ls w2 (HRS.out _ HB2.out) HFT.out).mono ?_
                rintro e w4 ⟨v4, rfl, ho4, hb4⟩
                have e4 := conv_text (P := Try.prog) (dst := 9) ho4.bytes Try.underlying25 Try.underlying5 Try.underlying9
                have HB4 := Lib.hid (HB2.out.trans (hb4.mono HB2.out.size))
                clear ho4 hb4
                refine hK.out _ _ HB4.out (fun h => absurd h (by decide)) ?_
                refine wpAnyN_step (i := 15) (by kernel_rfl) rfl (by kernel_rfl) ?_
                intro K' hK
                try simp only [Act.put]
                go_simp
                refine hK.out _ _ HB4.out (fun h => absurd h (by decide)) ?_
                clear e4
                refine wpAnyN_step (i := 18) (by kernel_rfl) rfl (by kernel_rfl) ?_
                intro K' hK
                try simp only [Act.put]
                go_simp
                refine hK.out _ _ HB4.out (fun h => absurd h (by decide)) ?_
                refine wpAnyN_step (i := 19) (by kernel_rfl) rfl (by kernel_rfl) ?_
                intro K' hK
                try simp only [Act.put]
                go_simp
                refine hK.out _ _ HB4.out (fun h => absurd h (by decide)) ?_
                refine wpAnyN_done (by kernel_rfl) ?_
                try simp only [Act.put]
                try go_simp
                go_step
                go_meet
                exact ⟨congrArg Value.bool e6, HB4.out⟩
            | false =>
              have HRT := Lib.hid hr
              have hb := Lib.hid (show true = BAD by rw [HBAD.out, hr]; simp)
              clear hr
              as_aux_lemma =>
                have HDR := Lib.hid (show Below wc.heap.size wc wc.drew from below_drewN (Below.refl _ _) 1)
                refine wp_region_N (S1 := fun W => Below wc.heap.size wc W) (S2 := fun _ => True) (N := fun _ => false) (by kernel_rfl) ?_
                change wpAnyN _ _ _ _ _ _ _ 20 (Array.replicate 20 false) _ _
                refine wpAnyN_take false (i := 0) (v := .agg #[.slice A1 bk.length c1, .int .i64 ek]) rfl (by kernel_rfl) (by kernel_rfl) (by kernel_rfl) (fun _ _ _ h => h) (.inl ⟨by kernel_rfl, fun W hS => ?_⟩) ⟨HDR.out, fun h => by cases h⟩ ?_
                · simp [execOp, Act.eval, go_sem, show W.cell? ⟨g, 0, none⟩ = some _ from (HRD.out W hS.1).1, show W.cell? ⟨g, 1, none⟩ = some _ from (HRD.out W hS.1).2]
                refine wpAnyN_step (i := 1) (by kernel_rfl) rfl (by kernel_rfl) ?_
                intro K' hK
                try simp only [Act.put]
                go_simp
                refine (refEnd13_any A1 c1 bk ek _).mono ?_
                rw [HEE.out]
                rintro e w2 ⟨rfl, hb2⟩
                have HB2 := Lib.hid (HDR.out.trans hb2)
                clear hb2
                refine hK.out _ _ HB2.out (fun h => absurd h (by decide)) ?_
                refine wpAnyN_step (i := 2) (by kernel_rfl) rfl (by kernel_rfl) ?_
                intro K' hK
                try simp only [Act.put]
                go_simp
                refine hK.out _ _ HB2.out (fun h => absurd h (by decide)) ?_
                refine wpAnyN_step (i := 3) (by kernel_rfl) rfl (by kernel_rfl) ?_
                intro K' hK
                try simp only [Act.put]
                go_simp
                refine hK.out _ _ HB2.out (fun h => absurd h (by decide)) ?_
                refine wpAnyN_take false (i := 4) (v := .int .u64 n1) rfl (by kernel_rfl) (by kernel_rfl) (by kernel_rfl) (fun _ _ _ h => h) (.inl ⟨by kernel_rfl, fun W hS => ?_⟩) ⟨HB2.out, fun h => by cases h⟩ ?_
                · simp [execOp, Act.eval, go_sem]
                refine wpAnyN_take false (i := 5) (v := .int .i64 n1) rfl (by kernel_rfl) (by kernel_rfl) (by kernel_rfl) (fun _ _ _ h => h) (.inl ⟨by kernel_rfl, fun W hS => ?_⟩) ⟨HB2.out, fun h => by cases h⟩ ?_
                · simp [execOp, Act.eval, Act.put, go_sem, HMW.out]
                refine wpAnyN_take false (i := 6) (v := .slice A8 n c8) rfl (by kernel_rfl) (by kernel_rfl) (by kernel_rfl) (fun _ _ _ h => h) (.inl ⟨by kernel_rfl, fun W hS => ?_⟩) ⟨HB2.out, fun h => by cases h⟩ ?_
                · simp [execOp, Act.eval, Act.put, go_sem]
                refine wpAnyN_step (i := 7) (by kernel_rfl) rfl (by kernel_rfl) ?_
                intro K' hK
                try simp only [Act.put]
                go_simp
                refine (refRight_any n1 _ ls w2 (HRS.out _ HB2.out)).mono ?_
                rw [HRT.out]
                rintro e w3 ⟨rfl, rfl⟩
                refine hK.out _ _ HB2.out (fun h => absurd h (by decide)) ?_
                refine wpAnyN_step (i := 8) (by kernel_rfl) rfl (by kernel_rfl) ?_
                intro K' hK
                try simp only [Act.put]
                go_simp
                refine hK.out _ _ HB2.out (fun h => absurd h (by decide)) ?_
                refine wpAnyN_step (i := 9) (by kernel_rfl) rfl (by kernel_rfl) ?_
                intro K' hK
                try simp only [Act.put]
                go_simp
                refine hK.out _ _ HB2.out (fun h => absurd h (by decide)) ?_
                refine wpAnyN_step (i := 10) (by kernel_rfl) rfl (by kernel_rfl) ?_
                intro K' hK
                try simp only [Act.put]
                go_simp
                refine hK.out _ _ HB2.out (fun h => absurd h (by decide)) ?_
                refine wpAnyN_take false (i := 11) (v := undef) rfl (by kernel_rfl) (by kernel_rfl) (by kernel_rfl) (fun _ _ _ h => h) (.inr ⟨by kernel_rfl, rfl⟩) ⟨HB2.out, fun h => by cases h⟩ ?_
                refine wpAnyN_take false (i := 12) (v := undef) rfl (by kernel_rfl) (by kernel_rfl) (by kernel_rfl) (fun _ _ _ h => h) (.inr ⟨by kernel_rfl, rfl⟩) ⟨HB2.out, fun h => by cases h⟩ ?_
                refine wpAnyN_take false (i := 13) (v := undef) rfl (by kernel_rfl) (by kernel_rfl) (by kernel_rfl) (fun _ _ _ h => h) (.inr ⟨by kernel_rfl, rfl⟩) ⟨HB2.out, fun h => by cases h⟩ ?_
                simp only [Act.put]
                go_simp
                refine wpAnyN_take false (i := 14) (v := undef) rfl (by kernel_rfl) (by kernel_rfl) (by kernel_rfl) (fun _ _ _ h => h) (.inr ⟨by kernel_rfl, rfl⟩) ⟨HB2.out, fun h => by cases h⟩ ?_
                refine wpAnyN_take false (i := 15) (v := undef) rfl (by kernel_rfl) (by kernel_rfl) (by kernel_rfl) (fun _ _ _ h => h) (.inr ⟨by kernel_rfl, rfl⟩) ⟨HB2.out, fun h => by cases h⟩ ?_
                refine wpAnyN_take false (i := 16) (v := undef) rfl (by kernel_rfl) (by kernel_rfl) (by kernel_rfl) (fun _ _ _ h => h) (.inr ⟨by kernel_rfl, rfl⟩) ⟨HB2.out, fun h => by cases h⟩ ?_
                simp only [Act.put]
                go_simp
                refine wpAnyN_take false (i := 17) (v := undef) rfl (by kernel_rfl) (by kernel_rfl) (by kernel_rfl) (fun _ _ _ h => h) (.inr ⟨by kernel_rfl, rfl⟩) ⟨HB2.out, fun h => by cases h⟩ ?_
                refine wpAnyN_take false (i := 18) (v := undef) rfl (by kernel_rfl) (by kernel_rfl) (by kernel_rfl) (fun _ _ _ h => h) (.inr ⟨by kernel_rfl, rfl⟩) ⟨HB2.out, fun h => by cases h⟩ ?_
                refine wpAnyN_step (i := 19) (by kernel_rfl) rfl (by kernel_rfl) ?_
                intro K' hK
                try simp only [Act.put]
                go_simp
                refine hK.out _ _ HB2.out (fun h => absurd h (by decide)) ?_
                refine wpAnyN_done (by kernel_rfl) ?_
                try simp only [Act.put]
                try go_simp
                go_step
                go_meet
                exact ⟨by rw [← hb.out], HB2.out⟩
          · have hE0z : (E != 0) = true := by simpa using hE0
            have hb := Lib.hid (show true = BAD by rw [HBAD.out, decide_eq_false hE0]; simp)
            clear hE0
            as_aux_lemma =>
              have HDR := Lib.hid (show Below wc.heap.size wc wc.drew from below_drewN (Below.refl _ _) 1)
              refine wp_region_N (S1 := fun W => Below wc.heap.size wc W) (S2 := fun _ => True) (N := fun _ => false) (by kernel_rfl) ?_
              change wpAnyN _ _ _ _ _ _ _ 20 (Array.replicate 20 false) _ _
              refine wpAnyN_take false (i := 0) (v := .agg #[.slice A1 bk.length c1, .int .i64 ek]) rfl (by kernel_rfl) (by kernel_rfl) (by kernel_rfl) (fun _ _ _ h => h) (.inl ⟨by kernel_rfl, fun W hS => ?_⟩) ⟨HDR.out, fun h => by cases h⟩ ?_
              · simp [execOp, Act.eval, go_sem, show W.cell? ⟨g, 0, none⟩ = some _ from (HRD.out W hS.1).1, show W.cell? ⟨g, 1, none⟩ = some _ from (HRD.out W hS.1).2]
              refine wpAnyN_step (i := 1) (by kernel_rfl) rfl (by kernel_rfl) ?_
              intro K' hK
              try simp only [Act.put]
              go_simp
              refine (refEnd13_any A1 c1 bk ek _).mono ?_
              rw [HEE.out]
              rintro e w2 ⟨rfl, hb2⟩
              have HB2 := Lib.hid (HDR.out.trans hb2)
              clear hb2
              refine hK.out _ _ HB2.out (fun h => absurd h (by decide)) ?_
              refine wpAnyN_step (i := 2) (by kernel_rfl) rfl (by kernel_rfl) ?_
              intro K' hK
              try simp only [Act.put]
              go_simp
              refine hK.out _ _ HB2.out (fun h => absurd h (by decide)) ?_
              refine wpAnyN_step (i := 3) (by kernel_rfl) rfl (by kernel_rfl) ?_
              intro K' hK
              try simp only [Act.put]
              go_simp
              refine hK.out _ _ HB2.out (fun h => absurd h (by decide)) ?_
              refine wpAnyN_take false (i := 4) (v := undef) rfl (by kernel_rfl) (by kernel_rfl) (by kernel_rfl) (fun _ _ _ h => h) (.inr ⟨by kernel_rfl, rfl⟩) ⟨HB2.out, fun h => by cases h⟩ ?_
              refine wpAnyN_take false (i := 5) (v := undef) rfl (by kernel_rfl) (by kernel_rfl) (by kernel_rfl) (fun _ _ _ h => h) (.inr ⟨by kernel_rfl, rfl⟩) ⟨HB2.out, fun h => by cases h⟩ ?_
              refine wpAnyN_take false (i := 6) (v := undef) rfl (by kernel_rfl) (by kernel_rfl) (by kernel_rfl) (fun _ _ _ h => h) (.inr ⟨by kernel_rfl, rfl⟩) ⟨HB2.out, fun h => by cases h⟩ ?_
              simp only [Act.put]
              go_simp
              refine wpAnyN_take false (i := 7) (v := undef) rfl (by kernel_rfl) (by kernel_rfl) (by kernel_rfl) (fun _ _ _ h => h) (.inr ⟨by kernel_rfl, rfl⟩) ⟨HB2.out, fun h => by cases h⟩ ?_
              refine wpAnyN_take false (i := 8) (v := undef) rfl (by kernel_rfl) (by kernel_rfl) (by kernel_rfl) (fun _ _ _ h => h) (.inr ⟨by kernel_rfl, rfl⟩) ⟨HB2.out, fun h => by cases h⟩ ?_
              refine wpAnyN_step (i := 9) (by kernel_rfl) rfl (by kernel_rfl) ?_
              intro K' hK
              try simp only [Act.put]
              go_simp
              refine hK.out _ _ HB2.out (fun h => absurd h (by decide)) ?_
              refine wpAnyN_step (i := 10) (by kernel_rfl) rfl (by kernel_rfl) ?_
              intro K' hK
              try simp only [Act.put]
              go_simp
              refine hK.out _ _ HB2.out (fun h => absurd h (by decide)) ?_
              refine wpAnyN_take false (i := 11) (v := undef) rfl (by kernel_rfl) (by kernel_rfl) (by kernel_rfl) (fun _ _ _ h => h) (.inr ⟨by kernel_rfl, rfl⟩) ⟨HB2.out, fun h => by cases h⟩ ?_
              refine wpAnyN_take false (i := 12) (v := undef) rfl (by kernel_rfl) (by kernel_rfl) (by kernel_rfl) (fun _ _ _ h => h) (.inr ⟨by kernel_rfl, rfl⟩) ⟨HB2.out, fun h => by cases h⟩ ?_
              refine wpAnyN_take false (i := 13) (v := undef) rfl (by kernel_rfl) (by kernel_rfl) (by kernel_rfl) (fun _ _ _ h => h) (.inr ⟨by kernel_rfl, rfl⟩) ⟨HB2.out, fun h => by cases h⟩ ?_
              simp only [Act.put]
              go_simp
              refine wpAnyN_take false (i := 14) (v := undef) rfl (by kernel_rfl) (by kernel_rfl) (by kernel_rfl) (fun _ _ _ h => h) (.inr ⟨by kernel_rfl, rfl⟩) ⟨HB2.out, fun h => by cases h⟩ ?_
              refine wpAnyN_take false (i := 15) (v := undef) rfl (by kernel_rfl) (by kernel_rfl) (by kernel_rfl) (fun _ _ _ h => h) (.inr ⟨by kernel_rfl, rfl⟩) ⟨HB2.out, fun h => by cases h⟩ ?_
              refine wpAnyN_take false (i := 16) (v := undef) rfl (by kernel_rfl) (by kernel_rfl) (by kernel_rfl) (fun _ _ _ h => h) (.inr ⟨by kernel_rfl, rfl⟩) ⟨HB2.out, fun h => by cases h⟩ ?_
              simp only [Act.put]
              go_simp
              refine wpAnyN_take false (i := 17) (v := undef) rfl (by kernel_rfl) (by kernel_rfl) (by kernel_rfl) (fun _ _ _ h => h) (.inr ⟨by kernel_rfl, rfl⟩) ⟨HB2.out, fun h => by cases h⟩ ?_
              refine wpAnyN_take false (i := 18) (v := undef) rfl (by kernel_rfl) (by kernel_rfl) (by kernel_rfl) (fun _ _ _ h => h) (.inr ⟨by kernel_rfl, rfl⟩) ⟨HB2.out, fun h => by cases h⟩ ?_
              refine wpAnyN_step (i := 19) (by kernel_rfl) rfl (by kernel_rfl) ?_
              intro K' hK
              try simp only [Act.put]
              go_simp
              refine hK.out _ _ HB2.out (fun h => absurd h (by decide)) ?_
              refine wpAnyN_done (by kernel_rfl) ?_
              try simp only [Act.put]
              try go_simp
              go_step
              go_meet
              exact ⟨by rw [← hb.out], HB2.out⟩
        case rest =>
          obtain ⟨rfl, hbc⟩ := hcut
          have HBF := Lib.hid (HSR.out.keep hbc).below
          have HOF := Lib.hid (HRS.out _ hbc)
          clear hbc
          cases BAD with
          | true =>
            have HND := Lib.hid (HNOD.out (by
              have h := HBAD.out
              by_cases h1 : E = 0
              · refine .inr ?_
                cases h2 : rightW n1 (rowsOf ls) with
                | false => exact .inl rfl
                | true =>
                  refine .inr (fun h3 => ?_)
                  rw [h2, decide_eq_true h1, decide_eq_true h3] at h
                  cases h
              · exact .inl h1))
            go_wp2_with fail
            go_ret3
            exact ⟨0, _, false, [], rfl, .inr ⟨rfl, rfl, rfl, HND.out⟩, RowsAt.nil _, by rw [← HG0.out]; exact HBF.out⟩
          | false =>
            have HYD := Lib.hid (show IsDec bs n1 (rowsOf ls) true by
              have h := HBAD.out.symm
              simp only [Bool.not_eq_false', Bool.and_eq_true, decide_eq_true_iff] at h
              exact .inl ⟨rfl, rightW_iff.1 h.2.1, h.2.2⟩)
            have hmw := HMW.out
            go_wp2_with fail
            go_ret3
            exact ⟨n1, _, true, ls, rfl, HYD.out, HOF.out, by rw [← HG0.out]; exact HBF.out⟩
end Go.Proofs.Ytaffcpjhaacadaa
