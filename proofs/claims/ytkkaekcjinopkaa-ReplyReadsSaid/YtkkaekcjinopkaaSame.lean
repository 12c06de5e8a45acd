/-
  Lists of ints held against each other; replies held against each other: the program's Same and the document's.
  Conditions: none.
-/
import Derived.Test.YtkkaekcjinopkaaInts
set_option linter.unusedVariables false
namespace Go.Proofs.Ytkkaekcjinopkaa
open Go.RowKit

def SameRel (xs ys : List Int) (w : World) (g : Nat) (i : Value) (wr : World) : Prop := ∃ k : Nat, k ≤ xs.length ∧ g = xs.length - k ∧ i = .int .i64 k ∧ xs.take k = ys.take k ∧ Below w.heap.size w wr

theorem take_same {xs ys : List Int} {k : Nat} {x y : Int} (h : xs.take k = ys.take k) (hx : xs[k]? = some x) (hy : ys[k]? = some y) (e : x = y) : xs.take (k + 1) = ys.take (k + 1) := by
  rw [List.take_add_one, List.take_add_one, h, hx, hy, e]

theorem differ {xs ys : List Int} {k : Nat} {x y : Int} (hx : xs[k]? = some x) (hy : ys[k]? = some y) (e : x ≠ y) : xs ≠ ys := by
  rintro rfl
  rw [hx] at hy
  exact e (Option.some.inj hy)

set_option maxHeartbeats 1000000 in
theorem equal_any (xs ys : List Int) (u v : Value) (w : World) (hs : IntsAt w u xs) (ht : IntsAt w v ys) :
    Calls Try.prog 20 #[u, v] w (RetB (.bool (decide (xs = ys))) w) := by
  obtain ⟨A, c, rfl, hl, hat⟩ := hs
  obtain ⟨B, d, rfl, hm, hbt⟩ := ht
  have HA := Lib.hid hat
  have HB := Lib.hid hbt
  clear hat hbt
  by_cases hne : xs.length = ys.length
  · have HN := Lib.hid hne
    have hn1 : ((xs.length : Int) == (ys.length : Int)) = true := by simp; omega
    have hn2 : ((xs.length : Int) != (ys.length : Int)) = false := by simp; omega
    clear hne
    obtain ⟨m, hm'⟩ : ∃ m, m = ys.length := ⟨_, rfl⟩
    rw [← hm'] at hm hn1 hn2 HN ⊢
    have HM := Lib.hid hm'
    clear hm'
    go_enter Try.func20, Try.ntmps20
    go_wp2_with fail
    go_loopg [13] xs.length (fun g i wr => SameRel xs ys w g i wr)
    case atStart => exact ⟨0, Nat.zero_le _, rfl, rfl, rfl, Below.refl _ _⟩
    case round =>
      obtain ⟨k, hk, hg, rfl, htk, hbw⟩ := hrel
      have HG := Lib.hid hg
      have HT := Lib.hid htk
      have HW := Lib.hid hbw
      clear hg htk hbw
      by_cases hlt : k < xs.length
      · obtain ⟨x, hx⟩ := exI_at hlt
        obtain ⟨y, hy⟩ := exI_at (xs := ys) (k := k) (by have := HN.out; have := HM.out; omega)
        obtain ⟨b, off, rfl, hb, hc⟩ := HA.out (by omega)
        obtain ⟨b', off', rfl, hb', hc'⟩ := HB.out (by have := HN.out; have := HM.out; omega)
        have hck : wr.cell? ⟨b, off + k, none⟩ = some (.int .i64 x) := (HW.out.cell (p := ⟨b, off + k, none⟩) hb).trans (hc k x hx)
        have hck' : wr.cell? ⟨b', off' + k, none⟩ = some (.int .i64 y) := (HW.out.cell (p := ⟨b', off' + k, none⟩) hb').trans (hc' k y hy)
        have hkm : k < m := by have := HN.out; omega
        have HX := Lib.hid hx
        have HY := Lib.hid hy
        clear hc hc' hx hy
        by_cases hxy : x = y
        · have HE := Lib.hid hxy
          have hxy' : (x == y) = true := by simpa using hxy
          have hxy'' : (x != y) = false := by simpa using hxy
          clear hxy
          go_wp2_with fail
          go_quiet (fail)
          go_wp2_with fail
          go_roundg (xs.length - (k + 1))
          case measure => have := HG.out; omega
          case rel => exact ⟨k + 1, by omega, rfl, by go_num, take_same HT.out HX.out HY.out HE.out, below_drewN HW.out _⟩
        · have E := Lib.hid (decide_eq_false (differ HX.out HY.out hxy))
          have hxy' : (x == y) = false := by simpa using hxy
          have hxy'' : (x != y) = true := by simpa using hxy
          clear hxy
          go_wp2_with fail
          go_quiet (fail)
          go_wp2_with fail
          go_ret
          exact ⟨ret_bool E.out.symm, below_drewN HW.out _⟩
      · have E := Lib.hid (decide_eq_true (show xs = ys by
          have := HT.out
          rwa [List.take_of_length_le (by omega), List.take_of_length_le (by have := HN.out; have := HM.out; omega)] at this))
        go_wp2_with fail
        go_ret
        exact ⟨ret_bool E.out.symm, HW.out⟩
  · have E := Lib.hid (decide_eq_false (show ¬ xs = ys from fun e => hne (by rw [e])))
    have hn1 : ((xs.length : Int) == (ys.length : Int)) = false := by simp; omega
    have hn2 : ((xs.length : Int) != (ys.length : Int)) = true := by simp; omega
    clear hne
    go_enter Try.func20, Try.ntmps20
    go_wp2_with fail
    go_ret
    exact ⟨ret_bool E.out.symm, Below.refl _ _⟩

set_option maxHeartbeats 1000000 in
theorem refInts_any (xs ys : List Int) (u v : Value) (w : World) (hs : IntsAt w u xs) (ht : IntsAt w v ys) :
    Calls Try.prog 21 #[u, v] w (RetB (.bool (decide (xs = ys))) w) := by
  obtain ⟨A, c, rfl, hl, hat⟩ := hs
  obtain ⟨B, d, rfl, hm, hbt⟩ := ht
  have HA := Lib.hid hat
  have HB := Lib.hid hbt
  clear hat hbt
  by_cases hne : xs.length = ys.length
  · have HN := Lib.hid hne
    have hn1 : ((xs.length : Int) == (ys.length : Int)) = true := by simp; omega
    have hn2 : ((xs.length : Int) != (ys.length : Int)) = false := by simp; omega
    clear hne
    obtain ⟨m, hm'⟩ : ∃ m, m = ys.length := ⟨_, rfl⟩
    rw [← hm'] at hm hn1 hn2 HN ⊢
    have HM := Lib.hid hm'
    clear hm'
    go_enter Try.func21, Try.ntmps21
    go_wp2_with fail
    go_loopg [5] xs.length (fun g i wr => SameRel xs ys w g i wr)
    case atStart => exact ⟨0, Nat.zero_le _, rfl, rfl, rfl, Below.refl _ _⟩
    case round =>
      obtain ⟨k, hk, hg, rfl, htk, hbw⟩ := hrel
      have HG := Lib.hid hg
      have HT := Lib.hid htk
      have HW := Lib.hid hbw
      clear hg htk hbw
      by_cases hlt : k < xs.length
      · obtain ⟨x, hx⟩ := exI_at hlt
        obtain ⟨y, hy⟩ := exI_at (xs := ys) (k := k) (by have := HN.out; have := HM.out; omega)
        obtain ⟨b, off, rfl, hb, hc⟩ := HA.out (by omega)
        obtain ⟨b', off', rfl, hb', hc'⟩ := HB.out (by have := HN.out; have := HM.out; omega)
        have hck : wr.cell? ⟨b, off + k, none⟩ = some (.int .i64 x) := (HW.out.cell (p := ⟨b, off + k, none⟩) hb).trans (hc k x hx)
        have hck' : wr.cell? ⟨b', off' + k, none⟩ = some (.int .i64 y) := (HW.out.cell (p := ⟨b', off' + k, none⟩) hb').trans (hc' k y hy)
        have hkm : k < m := by have := HN.out; omega
        have HX := Lib.hid hx
        have HY := Lib.hid hy
        clear hc hc' hx hy
        by_cases hxy : x = y
        · have HE := Lib.hid hxy
          have hxy' : (x == y) = true := by simpa using hxy
          have hxy'' : (x != y) = false := by simpa using hxy
          clear hxy
          go_wp2_with fail
          go_quiet (fail)
          go_wp2_with fail
          go_roundg (xs.length - (k + 1))
          case measure => have := HG.out; omega
          case rel => exact ⟨k + 1, by omega, rfl, by go_num, take_same HT.out HX.out HY.out HE.out, below_drewN HW.out _⟩
        · have E := Lib.hid (decide_eq_false (differ HX.out HY.out hxy))
          have hxy' : (x == y) = false := by simpa using hxy
          have hxy'' : (x != y) = true := by simpa using hxy
          clear hxy
          go_wp2_with fail
          go_quiet (fail)
          go_wp2_with fail
          go_ret
          exact ⟨ret_bool E.out.symm, below_drewN HW.out _⟩
      · have E := Lib.hid (decide_eq_true (show xs = ys by
          have := HT.out
          rwa [List.take_of_length_le (by omega), List.take_of_length_le (by have := HN.out; have := HM.out; omega)] at this))
        go_wp2_with fail
        go_ret
        exact ⟨ret_bool E.out.symm, HW.out⟩
  · have E := Lib.hid (decide_eq_false (show ¬ xs = ys from fun e => hne (by rw [e])))
    have hn1 : ((xs.length : Int) == (ys.length : Int)) = false := by simp; omega
    have hn2 : ((xs.length : Int) != (ys.length : Int)) = true := by simp; omega
    clear hne
    go_enter Try.func21, Try.ntmps21
    go_wp2_with fail
    go_ret
    exact ⟨ret_bool E.out.symm, Below.refl _ _⟩

set_option maxRecDepth 100000 in
set_option maxHeartbeats 1000000 in
theorem same_any (a b : Rep) (u v : Value) (w : World) (hu : IntsAt w u a.ns) (hv : IntsAt w v b.ns) :
    Calls Try.prog 9 #[.agg (repA a u), .agg (repA b v)] w (RetB (.bool (sameB a b)) w) := by
  have hb1 := below_new (W := w) (.cells (repA a u) 25)
  have ha1 := RepAt.new w a u
  have hz1 := World.size_alloc w (.cells (repA a u) 25)
  have hb2 := below_new (W := w.alloc (.cells (repA a u) 25)) (.cells (repA b v) 25)
  have ha2 := ha1.keep hb2
  have hv2 := RepAt.new (w.alloc (.cells (repA a u) 25)) b v
  rw [hz1] at hv2
  have HB := Lib.hid (hb1.trans (hb2.mono hb1.size))
  have HU := Lib.hid (hu.keep HB.out)
  have HV := Lib.hid (hv.keep HB.out)
  obtain ⟨c0, c1, c2, c3⟩ := ha2.cells
  obtain ⟨d0, d1, d2, d3⟩ := hv2.cells
  have HS := Lib.hid (show sameB a b = (decide (a.e = b.e) && (decide (a.p = b.p) && (decide (a.m = b.m) && decide (a.ns = b.ns)))) from rfl)
  clear ha1 ha2 hb1 hb2 hv2 hu hv
  go_enter Try.func9, Try.ntmps9
  go_upto_region 1 with fail
  rw [hz1] at *
  generalize (w.alloc (.cells (repA a u) 25)).alloc (.cells (repA b v) 25) = w1 at *
  have HC := Lib.hid (equal_any a.ns b.ns u v w1 HU.out HV.out)
  generalize sameB a b = R at *
  generalize decide (a.ns = b.ns) = q at *
  obtain ⟨e, p, m, ns⟩ := a
  obtain ⟨e', p', m', ns'⟩ := b
  simp only at c0 c1 c2 c3 d0 d1 d2 d3 HS
  clear hz1 HU HV
  by_cases h1 : e = e'
  · subst h1
    by_cases h2 : p = p'
    · subst h2
      by_cases h3 : m = m'
      · subst h3
        have HR := Lib.hid (show q = R by rw [HS.out]; simp)
        clear HS
        go_wp2_with (go_at_call 20; refine HC.out.mono ?_; rintro e w' ⟨rfl, hb'⟩)
        go_ret
        exact ⟨ret_bool HR.out, HB.out.trans (hb'.mono HB.out.size)⟩
      · have h3' : (m == m') = false := by simpa using h3
        have HR := Lib.hid (show false = R by rw [HS.out, decide_eq_false h3]; simp)
        clear HS h3
        go_wp2_with fail
        go_ret
        exact ⟨ret_bool HR.out, HB.out⟩
    · have h2' : (p == p') = false := by simpa using h2
      have HR := Lib.hid (show false = R by rw [HS.out, decide_eq_false h2]; simp)
      clear HS h2
      go_wp2_with fail
      go_ret
      exact ⟨ret_bool HR.out, HB.out⟩
  · have h1' : (e == e') = false := by simpa using h1
    have HR := Lib.hid (show false = R by rw [HS.out, decide_eq_false h1]; simp)
    clear HS h1
    go_wp2_with fail
    go_ret
    exact ⟨ret_bool HR.out, HB.out⟩

set_option maxRecDepth 100000 in
set_option maxHeartbeats 1000000 in
theorem refSame12_any (a b : Rep) (u v : Value) (w : World) (hu : IntsAt w u a.ns) (hv : IntsAt w v b.ns) :
    Calls Try.prog 10 #[.agg (repA a u), .agg (repA b v)] w (RetB (.bool (sameB a b)) w) := by
  have hb1 := below_new (W := w) (.cells (repA a u) 25)
  have ha1 := RepAt.new w a u
  have hz1 := World.size_alloc w (.cells (repA a u) 25)
  have hb2 := below_new (W := w.alloc (.cells (repA a u) 25)) (.cells (repA b v) 25)
  have ha2 := ha1.keep hb2
  have hv2 := RepAt.new (w.alloc (.cells (repA a u) 25)) b v
  rw [hz1] at hv2
  have HB := Lib.hid (hb1.trans (hb2.mono hb1.size))
  have HU := Lib.hid (hu.keep HB.out)
  have HV := Lib.hid (hv.keep HB.out)
  obtain ⟨c0, c1, c2, c3⟩ := ha2.cells
  obtain ⟨d0, d1, d2, d3⟩ := hv2.cells
  have HS := Lib.hid (show sameB a b = (decide (a.e = b.e) && (decide (a.p = b.p) && (decide (a.m = b.m) && decide (a.ns = b.ns)))) from rfl)
  clear ha1 ha2 hb1 hb2 hv2 hu hv
  go_enter Try.func10, Try.ntmps10
  go_upto_region 1 with fail
  rw [hz1] at *
  generalize (w.alloc (.cells (repA a u) 25)).alloc (.cells (repA b v) 25) = w1 at *
  have HC := Lib.hid (refInts_any a.ns b.ns u v w1 HU.out HV.out)
  generalize sameB a b = R at *
  generalize decide (a.ns = b.ns) = q at *
  obtain ⟨e, p, m, ns⟩ := a
  obtain ⟨e', p', m', ns'⟩ := b
  simp only at c0 c1 c2 c3 d0 d1 d2 d3 HS
  clear hz1 HU HV
  by_cases h1 : e = e'
  · subst h1
    by_cases h2 : p = p'
    · subst h2
      by_cases h3 : m = m'
      · subst h3
        have HR := Lib.hid (show q = R by rw [HS.out]; simp)
        clear HS
        go_wp2_with (go_at_call 21; refine HC.out.mono ?_; rintro e w' ⟨rfl, hb'⟩)
        go_ret
        exact ⟨ret_bool HR.out, HB.out.trans (hb'.mono HB.out.size)⟩
      · have h3' : (m == m') = false := by simpa using h3
        have HR := Lib.hid (show false = R by rw [HS.out, decide_eq_false h3]; simp)
        clear HS h3
        go_wp2_with fail
        go_ret
        exact ⟨ret_bool HR.out, HB.out⟩
    · have h2' : (p == p') = false := by simpa using h2
      have HR := Lib.hid (show false = R by rw [HS.out, decide_eq_false h2]; simp)
      clear HS h2
      go_wp2_with fail
      go_ret
      exact ⟨ret_bool HR.out, HB.out⟩
  · have h1' : (e == e') = false := by simpa using h1
    have HR := Lib.hid (show false = R by rw [HS.out, decide_eq_false h1]; simp)
    clear HS h1
    go_wp2_with fail
    go_ret
    exact ⟨ret_bool HR.out, HB.out⟩
end Go.Proofs.Ytkkaekcjinopkaa
