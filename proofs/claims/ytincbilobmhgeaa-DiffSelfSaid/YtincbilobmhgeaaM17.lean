/-
  Are two places' cores or windows unlike: in the document's words.
  Conditions: the values read as places; their pieces are of their kinds.
-/
import Derived.Test.YtincbilobmhgeaaM16
import Derived.Test.YtincbilobmhgeaaM14
import Derived.Test.YtincbilobmhgeaaM07
import Derived.Test.YtincbilobmhgeaaM05
import Derived.Test.YtincbilobmhgeaaM06
import Derived.BigQuiet

/-
  The page's example of diff.
  Conditions: none.
-/
set_option linter.unusedVariables false
set_option linter.unusedSimpArgs false
namespace Go.Proofs.Ytincbilobmhgeaa
open Go.RowKit Go.Maps

def exA : List Pl := [⟨1, 2, 0, []⟩, ⟨2, 1, 0, []⟩]
def exB : List Pl := [⟨1, 2, 1, []⟩, ⟨3, 1, 0, []⟩]
theorem exA_light : LightL exA := by
  refine ⟨by decide, fun x hx => ?_⟩
  simp only [exA, List.mem_cons, List.not_mem_nil, or_false] at hx
  rcases hx with rfl | rfl <;> exact ⟨⟨⟨by decide, by decide⟩, ⟨by decide, by decide⟩, ⟨by decide, by decide⟩, fun y hy => by cases hy⟩, by decide⟩
theorem exA_right : Right 4 3 exA where
  f2 := by decide
  f64 := by decide
  m0 := by decide
  m16 := by decide
  place := by
    intro x hx
    simp only [exA, List.mem_cons, List.not_mem_nil, or_false] at hx
    rcases hx with rfl | rfl <;> exact ⟨by decide +kernel, by decide, by decide, fun _ => by decide +kernel, fun h => absurd rfl h⟩
  asc := by
    intro i x y hx hy
    have h : i + 1 < exA.length := (List.getElem?_eq_some_iff.1 hy).1
    have h0 : i = 0 := by simp [exA] at h; omega
    subst h0
    simp [exA] at hx hy
    subst hx
    subst hy
    decide
  apart := by decide +kernel
  few := by decide +kernel
  load := by decide +kernel
theorem exB_light : LightL exB := by
  refine ⟨by decide, fun x hx => ?_⟩
  simp only [exB, List.mem_cons, List.not_mem_nil, or_false] at hx
  rcases hx with rfl | rfl <;> exact ⟨⟨⟨by decide, by decide⟩, ⟨by decide, by decide⟩, ⟨by decide, by decide⟩, fun y hy => by cases hy⟩, by decide⟩
theorem exB_right : Right 4 3 exB where
  f2 := by decide
  f64 := by decide
  m0 := by decide
  m16 := by decide
  place := by
    intro x hx
    simp only [exB, List.mem_cons, List.not_mem_nil, or_false] at hx
    rcases hx with rfl | rfl <;> exact ⟨by decide +kernel, by decide, by decide, fun _ => by decide +kernel, fun h => absurd rfl h⟩
  asc := by
    intro i x y hx hy
    have h : i + 1 < exB.length := (List.getElem?_eq_some_iff.1 hy).1
    have h0 : i = 0 := by simp [exB] at h; omega
    subst h0
    simp [exB] at hx hy
    subst hx
    subst hy
    decide
  apart := by decide +kernel
  few := by decide +kernel
  load := by decide +kernel
theorem exA_pls {W : World} {R : Nat} (hR : W.heap[R]? = some (.cells #[.int .i64 1, .int .i64 2, .int .i64 0, .slice none 0 0, .int .i64 2, .int .i64 1, .int .i64 0, .slice none 0 0] 37 (0, 0))) : PlsAt W (.slice (some ⟨R, 0, none⟩) 2 2) exA := by
  refine ⟨[(.slice none 0 0, ⟨1, 2, 0, []⟩), (.slice none 0 0, ⟨2, 1, 0, []⟩)], rfl, _, 2, rfl, Nat.le_refl 2, by decide, fun _ => ⟨R, 0, rfl, heap_lt hR, trivial, fun j p hp => ?_⟩, fun p hp => ?_⟩
  · have h := (List.getElem?_eq_some_iff.1 hp).1
    have hj : j = 0 ∨ j = 1 := by simp at h; omega
    rcases hj with rfl | rfl
    · cases hp
      exact ⟨by simp [World.cell?, hR], by simp [World.cell?, hR], by simp [World.cell?, hR], by simp [World.cell?, hR]⟩
    · cases hp
      exact ⟨by simp [World.cell?, hR], by simp [World.cell?, hR], by simp [World.cell?, hR], by simp [World.cell?, hR]⟩
  · simp only [List.mem_cons, List.not_mem_nil, or_false] at hp
    rcases hp with rfl | rfl <;> exact PcsIn.nil _ _
theorem exB_pls {W : World} {R : Nat} (hR : W.heap[R]? = some (.cells #[.int .i64 1, .int .i64 2, .int .i64 1, .slice none 0 0, .int .i64 3, .int .i64 1, .int .i64 0, .slice none 0 0] 37 (0, 0))) : PlsAt W (.slice (some ⟨R, 0, none⟩) 2 2) exB := by
  refine ⟨[(.slice none 0 0, ⟨1, 2, 1, []⟩), (.slice none 0 0, ⟨3, 1, 0, []⟩)], rfl, _, 2, rfl, Nat.le_refl 2, by decide, fun _ => ⟨R, 0, rfl, heap_lt hR, trivial, fun j p hp => ?_⟩, fun p hp => ?_⟩
  · have h := (List.getElem?_eq_some_iff.1 hp).1
    have hj : j = 0 ∨ j = 1 := by simp at h; omega
    rcases hj with rfl | rfl
    · cases hp
      exact ⟨by simp [World.cell?, hR], by simp [World.cell?, hR], by simp [World.cell?, hR], by simp [World.cell?, hR]⟩
    · cases hp
      exact ⟨by simp [World.cell?, hR], by simp [World.cell?, hR], by simp [World.cell?, hR], by simp [World.cell?, hR]⟩
  · simp only [List.mem_cons, List.not_mem_nil, or_false] at hp
    rcases hp with rfl | rfl <;> exact PcsIn.nil _ _
theorem ex_list0 : listU 0 exA exB = [1] := by decide +kernel
theorem ex_list1 : listU 1 exA exB = [3] := by decide +kernel
theorem ex_list2 : listU 2 exA exB = [2] := by decide +kernel
theorem ex_list4 : (listU 4 exA exB).length = 3 := by decide +kernel
theorem ex_shift : shiftT exA exB = 0 := by decide +kernel
/-- One number in a row of its own. -/
theorem one_int {W : World} {N : Nat} {x : Int} (h : W.heap[N]? = some (.cells #[.int .i64 x] 3 (0, 0))) : IntsAt W (.slice (some ⟨N, 0, none⟩) 1 1) [x] := by
  refine ⟨_, 1, rfl, by show 1 ≤ _; omega, fun _ => ⟨N, 0, rfl, heap_lt h, fun j y hy => ?_⟩⟩
  have hj : j = 0 := by have := (List.getElem?_eq_some_iff.1 hy).1; simp at this; omega
  subst hj
  cases hy
  simp [World.cell?, h]

set_option maxRecDepth 100000 in
set_option maxHeartbeats 8000000 in
theorem awake22_any (w : World) : Calls Try.prog 8 #[] w (RetB (.bool true) w) := by
  obtain ⟨w1, R1, hw1, hR1, hR1l, hb1, hr1⟩ := box_any w #[.int .i64 1, .int .i64 2, .int .i64 0, .slice none 0 0, .int .i64 2, .int .i64 1, .int .i64 0, .slice none 0 0] 37
  obtain ⟨w2, P, hw2, hP, hPl, hb2, hpb⟩ := box_any w1 #[.int .i64 4, .int .u32 3, .slice (some ⟨R1, 0, none⟩) 2 2] 25
  obtain ⟨w3, R2, hw3, hR2, hR2l, hb3, hr2⟩ := box_any w2 #[.int .i64 1, .int .i64 2, .int .i64 1, .slice none 0 0, .int .i64 3, .int .i64 1, .int .i64 0, .slice none 0 0] 37
  obtain ⟨w4, Q, hw4, hQ, hQl, hb4, hqb⟩ := box_any w3 #[.int .i64 4, .int .u32 3, .slice (some ⟨R2, 0, none⟩) 2 2] 25
  have HB2 := hb1.trans (hb2.mono hb1.size)
  have HB3 := HB2.trans (hb3.mono HB2.size)
  have HB4 := Lib.hid (HB3.trans (hb4.mono HB3.size))
  have HPB := Lib.hid (keep_block (keep_block hpb hb3) hb4)
  have HQB := Lib.hid hqb
  have HPA := Lib.hid (exA_pls (keep_block (keep_block (keep_block hr1 hb2) hb3) hb4))
  have HPQ := Lib.hid (exB_pls (keep_block hr2 hb4))
  have HM := Lib.hid (fun W (hk : Below w4.heap.size w4 W) => diffMoved_any 4 4 3 3 (.slice (some ⟨R1, 0, none⟩) 2 2) (.slice (some ⟨R2, 0, none⟩) 2 2) exA exB W (HPA.out.keep hk) (HPQ.out.keep hk) exA_light exB_light exA_right exB_right)
  have HC := Lib.hid (fun W (hk : Below w4.heap.size w4 W) => diffCame_any 4 4 3 3 (.slice (some ⟨R1, 0, none⟩) 2 2) (.slice (some ⟨R2, 0, none⟩) 2 2) exA exB W (HPA.out.keep hk) (HPQ.out.keep hk) exA_light exB_light exA_right exB_right)
  have HG := Lib.hid (fun W (hk : Below w4.heap.size w4 W) => diffGone_any 4 4 3 3 (.slice (some ⟨R1, 0, none⟩) 2 2) (.slice (some ⟨R2, 0, none⟩) 2 2) exA exB W (HPA.out.keep hk) (HPQ.out.keep hk) exA_light exB_light exA_right exB_right)
  have HS := Lib.hid (fun W (hk : Below w4.heap.size w4 W) => diffShift_any 4 4 3 3 (.slice (some ⟨R1, 0, none⟩) 2 2) (.slice (some ⟨R2, 0, none⟩) 2 2) exA exB W (HPA.out.keep hk) (HPQ.out.keep hk) exA_light exB_light exA_right exB_right)
  have HN := Lib.hid (fun W (hk : Below w4.heap.size w4 W) => diffChanges_any 4 4 3 3 (.slice (some ⟨R1, 0, none⟩) 2 2) (.slice (some ⟨R2, 0, none⟩) 2 2) exA exB W (HPA.out.keep hk) (HPQ.out.keep hk) exA_light exB_light exA_right exB_right)
  rw [ex_list0] at HM
  rw [ex_list1] at HC
  rw [ex_list2] at HG
  rw [ex_shift] at HS
  unfold RetChL at HN
  rw [ex_list4] at HN
  unfold planA at HM HC HG HS HN
  have HSM : Hid (∀ (xs : List Int) (u v : Value) (W : World), IntsAt W u xs → IntsAt W v xs → Calls Try.prog 9 #[u, v] W (RetB (.bool true) W)) := Lib.hid (fun xs u v W a b => by have h := refInts_any xs xs u v W a b; rwa [decide_eq_true rfl] at h)
  have hk0 : Below w4.heap.size w4 w4 := Below.refl _ _
  obtain ⟨p0, p1, p2⟩ := three_heads HPB.out
  obtain ⟨q0, q1, q2⟩ := three_heads HQB.out
  clear hb1 hb2 hb3 hb4 hpb hqb hr1 hr2 HB2 HB3
  go_enter Try.func8, Try.ntmps8
  go_wp2_with fail
  clear hw1 hw2 hw3 hw4 hR1 hP hR2 hQ
  refine (HM.out _ hk0).mono ?_
  rintro e w5a ⟨va, rfl, hia, hba⟩
  have hka := hk0.trans (hba.mono hk0.size)
  obtain ⟨w6a, Na, hwa, hNa, hNla, hb2a, hna⟩ := box_any w5a #[.int .i64 1] 3
  have hja := hka.trans (hb2a.mono hka.size)
  have HSa := Lib.hid (HSM.out [1] va (.slice (some ⟨Na, 0, none⟩) 1 1) w6a (hia.keep hb2a) (one_int hna))
  obtain ⟨p0, p1, p2⟩ := three_heads (keep_block HPB.out hja)
  obtain ⟨q0, q1, q2⟩ := three_heads (keep_block HQB.out hja)
  clear hia hba hb2a hna
  go_wp2_with fail
  refine HSa.out.mono ?_
  rintro e w7a ⟨rfl, hca⟩
  have hla := hja.trans (hca.mono hja.size)
  obtain ⟨p0, p1, p2⟩ := three_heads (keep_block HPB.out hla)
  obtain ⟨q0, q1, q2⟩ := three_heads (keep_block HQB.out hla)
  clear hwa hNa hca
  go_wp2_with fail
  refine (HC.out _ hla).mono ?_
  rintro e w5b ⟨vb, rfl, hib, hbb⟩
  have hkb := hla.trans (hbb.mono hla.size)
  obtain ⟨w6b, Nb, hwb, hNb, hNlb, hb2b, hnb⟩ := box_any w5b #[.int .i64 3] 3
  have hjb := hkb.trans (hb2b.mono hkb.size)
  have HSb := Lib.hid (HSM.out [3] vb (.slice (some ⟨Nb, 0, none⟩) 1 1) w6b (hib.keep hb2b) (one_int hnb))
  obtain ⟨p0, p1, p2⟩ := three_heads (keep_block HPB.out hjb)
  obtain ⟨q0, q1, q2⟩ := three_heads (keep_block HQB.out hjb)
  clear hib hbb hb2b hnb
  go_wp2_with fail
  refine HSb.out.mono ?_
  rintro e w7b ⟨rfl, hcb⟩
  have hlb := hjb.trans (hcb.mono hjb.size)
  obtain ⟨p0, p1, p2⟩ := three_heads (keep_block HPB.out hlb)
  obtain ⟨q0, q1, q2⟩ := three_heads (keep_block HQB.out hlb)
  clear hwb hNb hcb
  go_wp2_with fail
  refine (HG.out _ hlb).mono ?_
  rintro e w5c ⟨vc, rfl, hic, hbc⟩
  have hkc := hlb.trans (hbc.mono hlb.size)
  obtain ⟨w6c, Nc, hwc, hNc, hNlc, hb2c, hnc⟩ := box_any w5c #[.int .i64 2] 3
  have hjc := hkc.trans (hb2c.mono hkc.size)
  have HSc := Lib.hid (HSM.out [2] vc (.slice (some ⟨Nc, 0, none⟩) 1 1) w6c (hic.keep hb2c) (one_int hnc))
  obtain ⟨p0, p1, p2⟩ := three_heads (keep_block HPB.out hjc)
  obtain ⟨q0, q1, q2⟩ := three_heads (keep_block HQB.out hjc)
  clear hic hbc hb2c hnc
  go_wp2_with fail
  refine HSc.out.mono ?_
  rintro e w7c ⟨rfl, hcc⟩
  have hlc := hjc.trans (hcc.mono hjc.size)
  obtain ⟨p0, p1, p2⟩ := three_heads (keep_block HPB.out hlc)
  obtain ⟨q0, q1, q2⟩ := three_heads (keep_block HQB.out hlc)
  clear hwc hNc hcc
  go_wp2_with fail
  refine (HS.out _ hlc).mono ?_
  rintro e w8 ⟨rfl, hb8⟩
  have hk8 := hlc.trans (hb8.mono hlc.size)
  obtain ⟨p0, p1, p2⟩ := three_heads (keep_block HPB.out hk8)
  obtain ⟨q0, q1, q2⟩ := three_heads (keep_block HQB.out hk8)
  clear hb8
  go_wp2_with fail
  refine (HN.out _ hk8).mono ?_
  rintro e w9 ⟨A9, c9, rfl, hb9⟩
  have HB9 := Lib.hid (HB4.out.trans ((hk8.trans (hb9.mono hk8.size)).mono HB4.out.size))
  clear hb9
  go_wp2_with fail
  go_ret
  exact ⟨rfl, HB9.out⟩
end Go.Proofs.Ytincbilobmhgeaa

/-
  The units of two plans, in the document's words.
  Conditions: the slices read as places.
-/
set_option linter.unusedVariables false
set_option linter.unusedSimpArgs false
namespace Go.Proofs.Ytincbilobmhgeaa
open Go.RowKit

def unitsT (la lb : List Pl) (k : Nat) : List Int := ((List.range k).map fun i => ((i + 1 : Nat) : Int)).filter fun u => inU la u || inU lb u
theorem unitsT_all (la lb : List Pl) : unitsT la lb 1040 = unitsU la lb := rfl
theorem unitsT_succ (la lb : List Pl) (k : Nat) : unitsT la lb (k + 1) = if (inU la ((k + 1 : Nat) : Int) || inU lb ((k + 1 : Nat) : Int)) = true then unitsT la lb k ++ [((k + 1 : Nat) : Int)] else unitsT la lb k := by
  unfold unitsT
  rw [List.range_succ, List.map_append, List.filter_append]
  show _ ++ List.filter _ [((k + 1 : Nat) : Int)] = _
  cases h : inU la ((k + 1 : Nat) : Int) || inU lb ((k + 1 : Nat) : Int) with
  | true =>
    rw [if_pos rfl]
    rw [Int.natCast_succ] at h ⊢
    simp [List.filter, h]
  | false =>
    rw [if_neg (by decide)]
    rw [Int.natCast_succ] at h ⊢
    simp [List.filter, h]
theorem unitsT_le (la lb : List Pl) (k : Nat) : (unitsT la lb k).length ≤ k := by
  unfold unitsT
  refine Nat.le_trans (List.length_filter_le _ _) ?_
  rw [List.length_map, List.length_range]
  exact Nat.le_refl _
/-- A list that a call answers, in memory that was not there. -/
def RetLN (xs : List Int) (w : World) (e : Ending) (w' : World) : Prop := ∃ v, e = .returned v ∧ IntsAt w' v xs ∧ Below w.heap.size w w' ∧ ∀ k, v.ownBlock = some k → w.heap.size ≤ k

set_option maxRecDepth 100000 in
set_option maxHeartbeats 8000000 in
theorem refUnits_any (f1 f2 : Int) (m1 m2 : Nat) (v1 v2 : Value) (la lb : List Pl) (w : World) (h1 : PlsAt w v1 la) (h2 : PlsAt w v2 lb) (hl1 : la.length ≤ 1000) (hl2 : lb.length ≤ 1000) :
    Calls Try.prog 28 #[planA f1 m1 v1, planA f2 m2 v2] w (RetLN (unitsU la lb) w) := by
  obtain ⟨i0, hi, hz0, hz1, hz2⟩ := info_parts Try.infoInt
  obtain ⟨w1, P, hw1, hP, hPl, hb1, hpb⟩ := box_any w #[.int .i64 f1, .int .u32 m1, v1] 25
  obtain ⟨w2, Q, hw2, hQ, hQl, hb2, hqb⟩ := box_any w1 #[.int .i64 f2, .int .u32 m2, v2] 25
  have HB2 := Lib.hid (hb1.trans (hb2.mono hb1.size))
  have HPB := Lib.hid (keep_block hpb hb2)
  have HQB := Lib.hid hqb
  have HSA : Hid (∀ W, Below w2.heap.size w2 W → W.cell? ⟨P, 0, none⟩ = some (.int .i64 f1) ∧ W.cell? ⟨P, 1, none⟩ = some (.int .u32 m1) ∧ W.cell? ⟨P, 2, none⟩ = some v1 ∧ W.cell? ⟨Q, 0, none⟩ = some (.int .i64 f2) ∧ W.cell? ⟨Q, 1, none⟩ = some (.int .u32 m2) ∧ W.cell? ⟨Q, 2, none⟩ = some v2) := Lib.hid (fun W hk => by
    obtain ⟨a, b, c⟩ := three_heads (keep_block HPB.out hk)
    obtain ⟨d, e, f⟩ := three_heads (keep_block HQB.out hk)
    exact ⟨a, b, c, d, e, f⟩)
  have HF1 := Lib.hid (fun (u : Int) W (hk : Below w2.heap.size w2 W) => refFind_any f1 m1 v1 la u W (h1.keep (HB2.out.trans (hk.mono HB2.out.size))) hl1)
  have HF2 := Lib.hid (fun (u : Int) W (hk : Below w2.heap.size w2 W) => refFind_any f2 m2 v2 lb u W (h2.keep (HB2.out.trans (hk.mono HB2.out.size))) hl2)
  unfold RetFind planA plA at HF1 HF2
  unfold planA
  have HB0 := Lib.hid (show Below w2.heap.size w2 (w2.alloc (Obj.cells #[] 3)) from (Below.refl _ _).alloc (Nat.le_refl _) _)
  have HO0 : Hid ((w2.alloc (Obj.cells #[] 3)).ownsRow w2.heap.size 3 1 (.slice (some ⟨w2.heap.size, 0, none⟩) 0 0) (unitsT la lb 0).length ((unitsT la lb 0).map (Value.int .i64))) :=
    ⟨rfl, .inr ⟨w2.heap.size, 0, #[], rfl, Nat.le_refl _, heap_alloc_new w2 _, Nat.le_refl _, Nat.zero_le _, rfl, rfl⟩⟩
  clear h1 h2 hb1 hb2 hpb hqb
  go_enter Try.func28, Try.ntmps28
  go_wp2_with fail
  clear hw1 hw2 hP hQ
  go_loopg [5, 6] 1040 (fun gg s5 s6 wr => ∃ k : Nat, k ≤ 1040 ∧ gg = 1040 - k ∧ s6 = .int .i64 ((k + 1 : Nat) : Int) ∧ Hid (Below w2.heap.size w2 wr) ∧ Hid (wr.ownsRow w2.heap.size 3 1 s5 (unitsT la lb k).length ((unitsT la lb k).map (Value.int .i64))))
  case atStart => exact ⟨0, Nat.zero_le _, rfl, rfl, HB0, HO0⟩
  case round =>
    obtain ⟨k, hk, hgg, rfl, HBW, HO⟩ := hrel
    have HG := Lib.hid hgg
    clear hgg
    rw [show ((k + 1 : Nat) : Int) = (k : Int) + 1 from Int.natCast_succ k]
    obtain ⟨r0, r1, r2, q0, q1, q2⟩ := HSA.out _ HBW.out
    by_cases hlt : k < 1040
    · have hle : decide ((k : Int) + 1 ≤ 1040) = true := decide_eq_true (by omega)
      have hle' : (k : Int) + 1 ≤ 1040 := by omega
      have HSU := Lib.hid (unitsT_succ la lb k)
      rw [show ((k + 1 : Nat) : Int) = (k : Int) + 1 from Int.natCast_succ k] at HSU
      have HLE := Lib.hid (unitsT_le la lb k)
      have HF1 := Lib.hid (HF1.out ((k : Int) + 1))
      have HF2 := Lib.hid (HF2.out ((k : Int) + 1))
      obtain ⟨o1, ho1⟩ : ∃ o, findU la ((k : Int) + 1) = o := ⟨_, rfl⟩
      obtain ⟨o2, ho2⟩ : ∃ o, findU lb ((k : Int) + 1) = o := ⟨_, rfl⟩
      rw [ho1] at HF1
      rw [ho2] at HF2
      unfold inU at HSU
      rw [ho1, ho2] at HSU
      clear ho1 ho2
      go_wp2_with fail
      refine (HF1.out _ HBW.out).mono ?_
      rintro e wa ⟨va, rfl, hpa, hba⟩
      obtain ⟨A1, c1, rfl, _⟩ := hpa
      generalize (o1.getD zeroPl).ps.length = n1
      generalize (o1.getD zeroPl).u = u1
      generalize (o1.getD zeroPl).s = s1
      generalize (o1.getD zeroPl).c = x1
      obtain ⟨b1, hb1⟩ : ∃ b, o1.isSome = b := ⟨_, rfl⟩
      rw [hb1] at HSU ⊢
      obtain ⟨wb, N, hwb, hN, hNl, hbb, hnb⟩ := box_any wa #[.int .i64 0, .int .i64 0, .int .i64 0, .slice none 0 0] 37
      have HN := Lib.hid hnb
      obtain ⟨wc, hwc⟩ : ∃ wc, wb.setRow N #[.int .i64 u1, .int .i64 s1, .int .i64 x1, .slice A1 n1 c1] = wc := ⟨_, rfl⟩
      have hbc : Below wr.heap.size wr wc := by rw [← hwc]; exact hba.trans ((below_row16 hbb (by omega) _).mono hba.size)
      have HKC := Lib.hid (HBW.out.trans (hbc.mono HBW.out.size))
      have HKR := Lib.hid hbc
      clear hba hbb hnb hbc hb1 r0 r1 r2 q0 q1 q2
      obtain ⟨r0, r1, r2, q0, q1, q2⟩ := HSA.out _ HKC.out
      go_wp2_with (refine wpList_store_row rfl _ _ _ rfl N #[.int .i64 u1, .int .i64 s1, .int .i64 x1, .slice A1 n1 c1] rfl rfl 37 _ HN.out (Try.sizePl _ _ _ _) rfl (one4 _ _ _ _ _ _) ?_)
      clear hwb hwc hN
      refine (HF2.out _ HKC.out).mono ?_
      rintro e wd ⟨vd, rfl, hpd, hbd⟩
      obtain ⟨A2, c2, rfl, _⟩ := hpd
      generalize (o2.getD zeroPl).ps.length = n2
      generalize (o2.getD zeroPl).u = u2
      generalize (o2.getD zeroPl).s = s2
      generalize (o2.getD zeroPl).c = x2
      obtain ⟨b2, hb2⟩ : ∃ b, o2.isSome = b := ⟨_, rfl⟩
      rw [hb2] at HSU ⊢
      obtain ⟨we, M, hwe, hM, hMl, hbe, hmb⟩ := box_any wd #[.int .i64 0, .int .i64 0, .int .i64 0, .slice none 0 0] 37
      have HM := Lib.hid hmb
      obtain ⟨wf, hwf⟩ : ∃ wf, we.setRow M #[.int .i64 u2, .int .i64 s2, .int .i64 x2, .slice A2 n2 c2] = wf := ⟨_, rfl⟩
      have hbf : Below wc.heap.size wc wf := by rw [← hwf]; exact hbd.trans ((below_row16 hbe (by omega) _).mono hbd.size)
      have HKF := Lib.hid (HKC.out.trans (hbf.mono HKC.out.size))
      have HRF := Lib.hid (HKR.out.trans (hbf.mono HKR.out.size))
      have HOF := Lib.hid (own_below5 HO.out HRF.out)
      clear hbd hbe hmb hbf hb2 r0 r1 r2 q0 q1 q2
      cases hbb : b1 || b2 with
      | false =>
        rw [hbb, if_neg (by decide)] at HSU
        have h1f : b1 = false := by cases b1 <;> first | rfl | cases hbb
        have h2f : b2 = false := by cases b1 <;> cases b2 <;> first | rfl | cases hbb
        subst h1f
        subst h2f
        clear hbb
        go_wp2_with (refine wpList_store_row rfl _ _ _ rfl M #[.int .i64 u2, .int .i64 s2, .int .i64 x2, .slice A2 n2 c2] rfl rfl 37 _ HM.out (Try.sizePl _ _ _ _) rfl (one4 _ _ _ _ _ _) ?_)
        clear hwe hM
        try rw [hwf]
        clear hwf
        go_roundg (1040 - (k + 1))
        case measure => have := HG.out; omega
        case rel => exact ⟨k + 1, by omega, rfl, by go_num, HKF, by rw [HSU.out]; exact HOF⟩
      | true =>
        rw [hbb, if_pos rfl] at HSU
        have HU : Hid (unitsT la lb (k + 1) = unitsT la lb k ++ [(k : Int) + 1]) := HSU
        have hsz := HKF.out.size
        have hfold : (b1 || b2) = true := hbb
        cases b1 with
        | true =>
          go_wp2_with (first | refine wpList_store_row rfl _ _ _ rfl M #[.int .i64 u2, .int .i64 s2, .int .i64 x2, .slice A2 n2 c2] rfl rfl 37 _ HM.out (Try.sizePl _ _ _ _) rfl (one4 _ _ _ _ _ _) ?_ | (at_builtin; refine wpList_append_own _ rfl _ _ 29 rfl w2.heap.size 3 i0 (.int .i64 0) 1 8 Try.underlying29 hi hz0 hz1 hz2 rfl (by decide) _ _ _ rfl (HOF.out.alloc _) ⟨wf.heap.size, 0, none⟩ 1 1 [.int .i64 ((k : Int) + 1)] rfl rfl ?c1 ?c2 ?c3 ?c4 ?c5 ?_))
          case c1 =>
            intro j u hj
            rcases j with _ | j
            · simpa [Addr.add] using hj
            · simp at hj
          case c2 => intro u hu; simp at hu; subst hu; rfl
          case c3 => have := HLE.out; unfold maxLen; omega
          case c4 => have := HLE.out; omega
          case c5 => simp; omega
          intro v9 w9 hown9 hgrow9 _
          have HB9 := Lib.hid ((HKF.out.alloc hsz _).trans (below_grown4 hgrow9 (by simp; omega) (own_base4 HOF.out)))
          have HO9 : Hid (w9.ownsRow w2.heap.size 3 1 v9 (unitsT la lb (k + 1)).length ((unitsT la lb (k + 1)).map (Value.int .i64))) := Lib.hid (by
            rw [HU.out, List.length_append, List.map_append]
            exact hown9)
          clear hown9 hgrow9 hsz hwe hwf hM
          go_wp2
          go_roundg (1040 - (k + 1))
          case measure => have := HG.out; omega
          case rel => exact ⟨k + 1, by omega, rfl, by go_num, HB9, HO9⟩
        | false =>
          have h2t : b2 = true := by cases b2 <;> first | rfl | cases hbb
          subst h2t
          go_wp2_with (first | refine wpList_store_row rfl _ _ _ rfl M #[.int .i64 u2, .int .i64 s2, .int .i64 x2, .slice A2 n2 c2] rfl rfl 37 _ HM.out (Try.sizePl _ _ _ _) rfl (one4 _ _ _ _ _ _) ?_ | (at_builtin; refine wpList_append_own _ rfl _ _ 29 rfl w2.heap.size 3 i0 (.int .i64 0) 1 8 Try.underlying29 hi hz0 hz1 hz2 rfl (by decide) _ _ _ rfl (HOF.out.alloc _) ⟨wf.heap.size, 0, none⟩ 1 1 [.int .i64 ((k : Int) + 1)] rfl rfl ?c1 ?c2 ?c3 ?c4 ?c5 ?_))
          case c1 =>
            intro j u hj
            rcases j with _ | j
            · simpa [Addr.add] using hj
            · simp at hj
          case c2 => intro u hu; simp at hu; subst hu; rfl
          case c3 => have := HLE.out; unfold maxLen; omega
          case c4 => have := HLE.out; omega
          case c5 => simp; omega
          intro v9 w9 hown9 hgrow9 _
          have HB9 := Lib.hid ((HKF.out.alloc hsz _).trans (below_grown4 hgrow9 (by simp; omega) (own_base4 HOF.out)))
          have HO9 : Hid (w9.ownsRow w2.heap.size 3 1 v9 (unitsT la lb (k + 1)).length ((unitsT la lb (k + 1)).map (Value.int .i64))) := Lib.hid (by
            rw [HU.out, List.length_append, List.map_append]
            exact hown9)
          clear hown9 hgrow9 hsz hwe hwf hM
          go_wp2
          go_roundg (1040 - (k + 1))
          case measure => have := HG.out; omega
          case rel => exact ⟨k + 1, by omega, rfl, by go_num, HB9, HO9⟩
    · have hk40 : k = 1040 := by omega
      subst hk40
      have HR := Lib.hid (ints_of_own HO.out (by have := unitsT_le la lb 1040; omega))
      have HBE := Lib.hid (HB2.out.trans (HBW.out.mono HB2.out.size))
      have HFR : Hid (∀ j, u5.ownBlock = some j → w.heap.size ≤ j) := Lib.hid (fun j hj => Nat.le_trans HB2.out.size (own_base4 HO.out j hj))
      have hle : decide (((1040 : Nat) : Int) + 1 ≤ 1040) = false := by decide
      go_wp2
      go_ret
      exact ⟨_, rfl, by rw [← unitsT_all]; exact HR.out, HBE.out, HFR.out⟩
end Go.Proofs.Ytincbilobmhgeaa

/-
  Has a unit a core; are two places' cores or windows unlike: in the document's words.
  Conditions: the values read as places; their pieces are of their kinds.
-/
set_option linter.unusedVariables false
set_option linter.unusedSimpArgs false
namespace Go.Proofs.Ytincbilobmhgeaa
open Go.RowKit

theorem any_hit {ps : List Pc} {k : Nat} {y : Pc} {c : Int} (h : ps[k]? = some y) (hc : y.c = c) : (ps.any fun y => decide (y.c = c)) = true := List.any_eq_true.2 ⟨y, List.mem_of_getElem? h, decide_eq_true hc⟩
theorem any_miss {ps : List Pc} {n : Nat} {c : Int} (hn : ps.length = n) (h : ∀ k, k < n → ∀ y, ps[k]? = some y → y.c ≠ c) : (ps.any fun y => decide (y.c = c)) = false := by
  rw [List.any_eq_false]
  intro y hy
  obtain ⟨k, hk⟩ := List.mem_iff_getElem?.1 hy
  have := h k (by have := (List.getElem?_eq_some_iff.1 hk).1; omega) y hk
  simpa using this

set_option maxRecDepth 100000 in
set_option maxHeartbeats 2000000 in
theorem refOn_any (v : Value) (x : Pl) (c : Int) (w : World) (h : PcsAt w v x.ps) (hl : x.ps.length ≤ 1000) :
    Calls Try.prog 45 #[plA v x, .int .i64 c] w (RetB (.bool (coreB x c)) w) := by
  obtain ⟨A, d, rfl⟩ := h.form
  have HL := Lib.hid h
  obtain ⟨u, s, c0, ps⟩ := x
  simp only at *
  obtain ⟨w1, P, hw1, hP, hPl, hb1, hbox⟩ := box_any w #[.int .i64 u, .int .i64 s, .int .i64 c0, .slice A ps.length d] 37
  obtain ⟨n, hn⟩ : ∃ n, ps.length = n := ⟨_, rfl⟩
  rw [hn] at HL hl hw1 hbox ⊢
  have HN := Lib.hid hn
  have HB1 := Lib.hid hb1
  have HBOX := Lib.hid hbox
  obtain ⟨r0, r1, r2, r3⟩ := four_heads hbox
  clear h hn hb1 hbox
  unfold plA
  by_cases h0 : n = 0
  · have HE : Hid (coreB ⟨u, s, c0, ps⟩ c = (c0 == c)) := Lib.hid (by
      have : ps = [] := List.eq_nil_of_length_eq_zero (by rw [HN.out]; exact h0)
      subst this
      rfl)
    subst h0
    go_enter Try.func45, Try.ntmps45
    go_wp2_with fail
    go_ret
    exact ⟨by rw [HE.out]; rfl, HB1.out⟩
  · have hn0 : ((n : Int) == 0) = false := by simp; exact h0
    have HE : Hid (coreB ⟨u, s, c0, ps⟩ c = ps.any fun y => decide (y.c = c)) := Lib.hid (by
      unfold coreB
      rw [if_neg]
      intro e
      have h1 : ps = [] := e
      rw [h1] at HN
      exact h0 HN.out.symm)
    go_enter Try.func45, Try.ntmps45
    go_wp2_with fail
    clear hw1 hP r0 r1 r2 r3
    go_loopg [5] n (fun gg s5 wr => ∃ k : Nat, k ≤ n ∧ gg = n - k ∧ s5 = .int .i64 k ∧ w1 = wr ∧ Hid (∀ j, j < k → ∀ y, ps[j]? = some y → y.c ≠ c))
    case atStart => exact ⟨0, Nat.zero_le _, by omega, rfl, rfl, Lib.hid (fun j hj => absurd hj (Nat.not_lt_zero _))⟩
    case round =>
      obtain ⟨k, hk, hg, rfl, rfl, HNO⟩ := hrel
      have HG := Lib.hid hg
      obtain ⟨r0, r1, r2, r3⟩ := four_heads HBOX.out
      clear hg
      by_cases hlt : k < n
      · have hltz : (k : Int) < (n : Int) := by omega
        have hk0 : (0 : Int) ≤ (k : Int) := by omega
        obtain ⟨y, hy⟩ := exP_at (xs := ps) (k := k) (by rw [HN.out]; exact hlt)
        obtain ⟨b, off, hA, hbl, _, y0, y1⟩ := (HL.out.keep HB1.out).at_ hy
        subst hA
        have HY := Lib.hid hy
        obtain ⟨yc, yt⟩ := y
        simp only at y0 y1
        clear hy
        cases he : (yc == c) with
        | false =>
          have HNE : Hid (yc ≠ c) := Lib.hid (by simpa using he)
          go_wp2_with fail
          go_roundg (n - (k + 1))
          case measure => have := HG.out; omega
          case rel => exact ⟨k + 1, by omega, rfl, by go_num, rfl, Lib.hid (fun j hj y hjy => by
            by_cases e : j = k
            · subst e
              rw [HY.out] at hjy
              have := Option.some.inj hjy
              subst this
              exact HNE.out
            · exact HNO.out j (by omega) y hjy)⟩
        | true =>
          have HHT : Hid ((ps.any fun y => decide (y.c = c)) = true) := Lib.hid (any_hit HY.out (by simpa using he))
          go_wp2_with fail
          go_ret
          exact ⟨by rw [HE.out, HHT.out]; rfl, HB1.out⟩
      · have hkn : k = n := by omega
        subst hkn
        have HMS : Hid ((ps.any fun y => decide (y.c = c)) = false) := Lib.hid (any_miss HN.out HNO.out)
        go_wp2_with fail
        go_ret
        exact ⟨by rw [HE.out, HMS.out]; rfl, HB1.out⟩
end Go.Proofs.Ytincbilobmhgeaa

/-
  Are two places' cores or windows unlike: in the document's words.
  Conditions: the values read as places; their pieces are of their kinds.
-/
set_option linter.unusedVariables false
set_option linter.unusedSimpArgs false
namespace Go.Proofs.Ytincbilobmhgeaa
open Go.RowKit

set_option maxRecDepth 100000 in
set_option maxHeartbeats 8000000 in
theorem refMovedU_any (v1 v2 : Value) (x y : Pl) (w : World) (h1 : PcsAt w v1 x.ps) (h2 : PcsAt w v2 y.ps) (hl1 : x.ps.length ≤ 1000) (hl2 : y.ps.length ≤ 1000) (ho1 : ∀ z ∈ x.ps, PcOk z) (ho2 : ∀ z ∈ y.ps, PcOk z) :
    Calls Try.prog 29 #[plA v1 x, plA v2 y] w (RetB (.bool (movedB x y)) w) := by
  have mixed : Try.prog.follows .mixedOrders = true := by kernel_rfl
  obtain ⟨xA, xd, rfl⟩ := h1.form
  obtain ⟨yA, yd, rfl⟩ := h2.form
  obtain ⟨xn, hxn⟩ : ∃ n, x.ps.length = n := ⟨_, rfl⟩
  obtain ⟨yn, hyn⟩ : ∃ n, y.ps.length = n := ⟨_, rfl⟩
  rw [hxn] at h1 ⊢
  rw [hyn] at h2 ⊢
  have HOX0 := Lib.hid (fun (c : Int) W (h : PcsAt W (.slice xA xn xd) x.ps) => refOn_any _ x c W h hl1)
  have HOY0 := Lib.hid (fun (c : Int) W (h : PcsAt W (.slice yA yn yd) y.ps) => refOn_any _ y c W h hl2)
  have HAX0 := Lib.hid (fun (c t : Nat) (ht : t < 64) W (h : PcsAt W (.slice xA xn xd) x.ps) => at_any _ x (c : Int) t W h hl1 ho1 ht)
  have HAY0 := Lib.hid (fun (c t : Nat) (ht : t < 64) W (h : PcsAt W (.slice yA yn yd) y.ps) => at_any _ y (c : Int) t W h hl2 ho2 ht)
  have HLE := Lib.hid (fun (c t : Nat) => (show nAt x.ps (c : Int) t ≤ 1000 ∧ nAt y.ps (c : Int) t ≤ 1000 from ⟨Nat.le_trans (nAt_le _ _ _) hl1, Nat.le_trans (nAt_le _ _ _) hl2⟩))
  unfold plA at HOX0 HOY0 HAX0 HAY0 ⊢
  obtain ⟨xu, hxu⟩ : ∃ u, x.u = u := ⟨_, rfl⟩
  obtain ⟨xs, hxs⟩ : ∃ u, x.s = u := ⟨_, rfl⟩
  obtain ⟨xc, hxc⟩ : ∃ u, x.c = u := ⟨_, rfl⟩
  obtain ⟨yu, hyu⟩ : ∃ u, y.u = u := ⟨_, rfl⟩
  obtain ⟨ys, hys⟩ : ∃ u, y.s = u := ⟨_, rfl⟩
  obtain ⟨yc, hyc⟩ : ∃ u, y.c = u := ⟨_, rfl⟩
  rw [hxu, hxs, hxc] at HOX0 HAX0 ⊢
  rw [hyu, hys, hyc] at HOY0 HAY0 ⊢
  obtain ⟨w1, X, hw1, hX, hXl, hb1, hxb⟩ := box_any w #[.int .i64 xu, .int .i64 xs, .int .i64 xc, .slice xA xn xd] 37
  obtain ⟨w2, Y, hw2, hY, hYl, hb2, hyb⟩ := box_any w1 #[.int .i64 yu, .int .i64 ys, .int .i64 yc, .slice yA yn yd] 37
  have HB2 := Lib.hid (hb1.trans (hb2.mono hb1.size))
  have HXB := Lib.hid (keep_block hxb hb2)
  have HYB := Lib.hid hyb
  have HSA : Hid (∀ W, Below w2.heap.size w2 W → W.cell? ⟨X, 0, none⟩ = some (.int .i64 xu) ∧ W.cell? ⟨X, 1, none⟩ = some (.int .i64 xs) ∧ W.cell? ⟨X, 2, none⟩ = some (.int .i64 xc) ∧ W.cell? ⟨X, 3, none⟩ = some (.slice xA xn xd) ∧ W.cell? ⟨Y, 0, none⟩ = some (.int .i64 yu) ∧ W.cell? ⟨Y, 1, none⟩ = some (.int .i64 ys) ∧ W.cell? ⟨Y, 2, none⟩ = some (.int .i64 yc) ∧ W.cell? ⟨Y, 3, none⟩ = some (.slice yA yn yd)) := Lib.hid (fun W hk => by
    obtain ⟨a0, a1, a2, a3⟩ := four_heads (keep_block HXB.out hk)
    obtain ⟨b0, b1, b2, b3⟩ := four_heads (keep_block HYB.out hk)
    exact ⟨a0, a1, a2, a3, b0, b1, b2, b3⟩)
  have HOX := Lib.hid (fun (c : Int) W (hk : Below w2.heap.size w2 W) => HOX0.out c W (h1.keep (HB2.out.trans (hk.mono HB2.out.size))))
  have HOY := Lib.hid (fun (c : Int) W (hk : Below w2.heap.size w2 W) => HOY0.out c W (h2.keep (HB2.out.trans (hk.mono HB2.out.size))))
  have HAX := Lib.hid (fun (c t : Nat) ht W (hk : Below w2.heap.size w2 W) => HAX0.out c t ht W (h1.keep (HB2.out.trans (hk.mono HB2.out.size))))
  have HAY := Lib.hid (fun (c t : Nat) ht W (hk : Below w2.heap.size w2 W) => HAY0.out c t ht W (h2.keep (HB2.out.trans (hk.mono HB2.out.size))))
  clear h1 h2 hb1 hb2 hxb hyb hxu hxs hxc hyu hys hyc HOX0 HOY0 HAX0 HAY0
  go_enter Try.func29, Try.ntmps29
  go_wp2_with fail
  clear hw1 hw2 hX hY
  go_loopg [5] 16 (fun gg s5 wr => ∃ c : Nat, c ≤ 16 ∧ gg = 16 - c ∧ s5 = .int .i64 c ∧ Hid (Below w2.heap.size w2 wr) ∧ Hid (∀ d, d < c → coreB x (d : Int) = coreB y (d : Int) ∧ ∀ t, t < 64 → nOn x.ps (d : Int) t = nOn y.ps (d : Int) t))
  case atStart => exact ⟨0, Nat.zero_le _, rfl, rfl, Lib.hid (Below.refl _ _), Lib.hid (fun d hd => absurd hd (Nat.not_lt_zero _))⟩
  case round =>
    obtain ⟨c, hc, hgg, rfl, HK, HEQ⟩ := hrel
    have HG := Lib.hid hgg
    clear hgg
    by_cases hlt : c < 16
    · have hcz : (c : Int) < 16 := by omega
      have hc0 : (0 : Int) ≤ (c : Int) := by omega
      have hkd := HK.out.drew
      obtain ⟨b1, hb1⟩ : ∃ b, coreB x (c : Int) = b := ⟨_, rfl⟩
      obtain ⟨b2, hb2⟩ : ∃ b, coreB y (c : Int) = b := ⟨_, rfl⟩
      have HOX := Lib.hid (HOX.out (c : Int))
      have HOY := Lib.hid (HOY.out (c : Int))
      rw [hb1] at HOX
      rw [hb2] at HOY
      have HB1 := Lib.hid hb1
      have HBB := Lib.hid hb2
      clear hb1 hb2
      obtain ⟨q, hq⟩ : ∃ q, (!b1 == b2) = q := ⟨_, rfl⟩
      have HQ : Hid (q = true ↔ b1 ≠ b2) := Lib.hid (by rw [← hq]; cases b1 <;> cases b2 <;> simp)
      obtain ⟨wo, hwo⟩ : ∃ wo, wo = wr := ⟨_, rfl⟩
      subst hwo
      go_wp2_with fail
      refine wp_region_held_drew (S := fun w' => w'.cell? ⟨X, 0, none⟩ = some (.int .i64 xu) ∧ w'.cell? ⟨X, 1, none⟩ = some (.int .i64 xs) ∧ w'.cell? ⟨X, 2, none⟩ = some (.int .i64 xc) ∧ w'.cell? ⟨X, 3, none⟩ = some (.slice xA xn xd) ∧ w'.cell? ⟨Y, 0, none⟩ = some (.int .i64 yu) ∧ w'.cell? ⟨Y, 1, none⟩ = some (.int .i64 ys) ∧ w'.cell? ⟨Y, 2, none⟩ = some (.int .i64 yc) ∧ w'.cell? ⟨Y, 3, none⟩ = some (.slice yA yn yd)) (by kernel_rfl) ?_ (fun hHeld => ?_)
      · exact HSA.out _ hkd
      refine wpAnyH_take (i := 0) (oi := ⟨some 11, _, _, _, _, _⟩) (v := ?_) rfl (by kernel_rfl) (by kernel_rfl) (by kernel_rfl) (fun _ _ _ h => h) (Or.inl ⟨by kernel_rfl, ?_⟩) (by assumption) ?_
      rotate_left
      · (intro w hSw; (try dsimp only at hSw); go_simp; try with_reducible rfl)
      (try simp only [Act.put, List.setIfInBounds_toArray, List.set_cons_zero, List.set_cons_succ])
      refine wpAnyH_take (i := 1) (oi := ⟨some 12, _, _, _, _, _⟩) (v := ?_) rfl (by kernel_rfl) (by kernel_rfl) (by kernel_rfl) (fun _ _ _ h => h) (Or.inl ⟨by kernel_rfl, ?_⟩) (by assumption) ?_
      rotate_left
      · (intro w hSw; (try dsimp only at hSw); go_simp; try with_reducible rfl)
      (try simp only [Act.put, List.setIfInBounds_toArray, List.set_cons_zero, List.set_cons_succ])
      refine wpAnyH_take (i := 3) (oi := ⟨some 14, _, _, _, _, _⟩) (v := ?_) rfl (by kernel_rfl) (by kernel_rfl) (by kernel_rfl) (fun _ _ _ h => h) (Or.inl ⟨by kernel_rfl, ?_⟩) (by assumption) ?_
      rotate_left
      · (intro w hSw; (try dsimp only at hSw); go_simp; try with_reducible rfl)
      (try simp only [Act.put, List.setIfInBounds_toArray, List.set_cons_zero, List.set_cons_succ])
      refine wpAnyH_take (i := 4) (oi := ⟨some 15, _, _, _, _, _⟩) (v := ?_) rfl (by kernel_rfl) (by kernel_rfl) (by kernel_rfl) (fun _ _ _ h => h) (Or.inl ⟨by kernel_rfl, ?_⟩) (by assumption) ?_
      rotate_left
      · (intro w hSw; (try dsimp only at hSw); go_simp; try with_reducible rfl)
      (try simp only [Act.put, List.setIfInBounds_toArray, List.set_cons_zero, List.set_cons_succ])
      refine wpAnyH_ready (rs := [2]) (by kernel_rfl) (by simp) ?_
      refine AllReadyH.cons (o := ⟨some 13, _, _, _, _, _⟩) rfl (fun K hK => ?_) AllReadyH.nil
      rw [if_pos (by kernel_rfl)]
      go_simp
      go_at_call 45; refine (HOX.out _ hkd).mono ?_; rintro e wa ⟨rfl, hba⟩
      have hka := hkd.trans (hba.mono hkd.size)
      refine hK.out _ _ ?_ (fun hHeld => ?_)
      · exact HSA.out _ hka
      clear hK K
      (try simp only [Act.put, List.setIfInBounds_toArray, List.set_cons_zero, List.set_cons_succ])
      refine wpAnyH_ready (rs := [5]) (by kernel_rfl) (by simp) ?_
      refine AllReadyH.cons (o := ⟨some 16, _, _, _, _, _⟩) rfl (fun K hK => ?_) AllReadyH.nil
      rw [if_pos (by kernel_rfl)]
      go_simp
      go_at_call 45; refine (HOY.out _ hka).mono ?_; rintro e wb ⟨rfl, hbb⟩
      have hkb := hka.trans (hbb.mono hka.size)
      refine hK.out _ _ ?_ (fun hHeld => ?_)
      · exact HSA.out _ hkb
      clear hK K
      (try simp only [Act.put, List.setIfInBounds_toArray, List.set_cons_zero, List.set_cons_succ])
      refine wpAnyH_take (i := 6) (oi := ⟨some 17, _, _, _, _, _⟩) (v := ?_) rfl (by kernel_rfl) (by kernel_rfl) (by kernel_rfl) (fun _ _ _ h => h) (Or.inl ⟨by kernel_rfl, ?_⟩) (by assumption) ?_
      rotate_left
      · (intro w hSw; (try dsimp only at hSw); go_simp; try with_reducible rfl)
      (try simp only [Act.put, List.setIfInBounds_toArray, List.set_cons_zero, List.set_cons_succ])
      refine wpAnyH_done (by kernel_rfl) ?_ _
      clear hHeld hq
      cases q with
      | false =>
        have HCE : Hid (coreB x (c : Int) = coreB y (c : Int)) := Lib.hid (by
          rw [HB1.out, HBB.out]
          exact Classical.byContradiction fun h => absurd (HQ.out.2 h) (by decide))
        have HKB := Lib.hid hkb
        clear hkb hka hkd hba hbb
        obtain ⟨wi, hwi⟩ : ∃ wi, wi = wb := ⟨_, rfl⟩
        subst hwi
        go_wp2_with fail
        go_loopg [6] 64 (fun gg s6 wr => ∃ t : Nat, t ≤ 64 ∧ gg = 64 - t ∧ s6 = .int .i64 t ∧ Hid (Below w2.heap.size w2 wr) ∧ Hid (∀ s, s < t → nOn x.ps (c : Int) s = nOn y.ps (c : Int) s))
        case atStart => exact ⟨0, Nat.zero_le _, rfl, rfl, HKB, Lib.hid (fun d hd => absurd hd (Nat.not_lt_zero _))⟩
        case round =>
          obtain ⟨t, ht, hgg, rfl, HKI, HTE⟩ := hrel
          have HG2 := Lib.hid hgg
          clear hgg
          by_cases hlt2 : t < 64
          · have htz : (t : Int) < 64 := by omega
            have hkq := HKI.out.drew
            have HAX := Lib.hid (HAX.out c t hlt2)
            have HAY := Lib.hid (HAY.out c t hlt2)
            obtain ⟨hl1', hl2'⟩ := HLE.out c t
            obtain ⟨n1, hn1⟩ : ∃ n, nAt x.ps (c : Int) t = n := ⟨_, rfl⟩
            obtain ⟨n2, hn2⟩ : ∃ n, nAt y.ps (c : Int) t = n := ⟨_, rfl⟩
            rw [hn1] at HAX hl1'
            rw [hn2] at HAY hl2'
            have HN1 : Hid (nOn x.ps (c : Int) t = n1) := Lib.hid (by rw [← nAt_on hc0]; exact hn1)
            have HN2 : Hid (nOn y.ps (c : Int) t = n2) := Lib.hid (by rw [← nAt_on hc0]; exact hn2)
            clear hn1 hn2
            go_wp2_with fail
            refine wp_region_held_drew (S := fun w' => w'.cell? ⟨X, 0, none⟩ = some (.int .i64 xu) ∧ w'.cell? ⟨X, 1, none⟩ = some (.int .i64 xs) ∧ w'.cell? ⟨X, 2, none⟩ = some (.int .i64 xc) ∧ w'.cell? ⟨X, 3, none⟩ = some (.slice xA xn xd) ∧ w'.cell? ⟨Y, 0, none⟩ = some (.int .i64 yu) ∧ w'.cell? ⟨Y, 1, none⟩ = some (.int .i64 ys) ∧ w'.cell? ⟨Y, 2, none⟩ = some (.int .i64 yc) ∧ w'.cell? ⟨Y, 3, none⟩ = some (.slice yA yn yd)) (by kernel_rfl) ?_ (fun hHeld => ?_)
            · exact HSA.out _ hkq
            refine wpAnyH_take (i := 0) (oi := ⟨some 22, _, _, _, _, _⟩) (v := ?_) rfl (by kernel_rfl) (by kernel_rfl) (by kernel_rfl) (fun _ _ _ h => h) (Or.inl ⟨by kernel_rfl, ?_⟩) (by assumption) ?_
            rotate_left
            · (intro w hSw; (try dsimp only at hSw); go_simp; try with_reducible rfl)
            (try simp only [Act.put, List.setIfInBounds_toArray, List.set_cons_zero, List.set_cons_succ])
            refine wpAnyH_take (i := 1) (oi := ⟨some 23, _, _, _, _, _⟩) (v := ?_) rfl (by kernel_rfl) (by kernel_rfl) (by kernel_rfl) (fun _ _ _ h => h) (Or.inl ⟨by kernel_rfl, ?_⟩) (by assumption) ?_
            rotate_left
            · (intro w hSw; (try dsimp only at hSw); go_simp; try with_reducible rfl)
            (try simp only [Act.put, List.setIfInBounds_toArray, List.set_cons_zero, List.set_cons_succ])
            refine wpAnyH_take (i := 2) (oi := ⟨some 24, _, _, _, _, _⟩) (v := ?_) rfl (by kernel_rfl) (by kernel_rfl) (by kernel_rfl) (fun _ _ _ h => h) (Or.inl ⟨by kernel_rfl, ?_⟩) (by assumption) ?_
            rotate_left
            · (intro w hSw; (try dsimp only at hSw); go_simp; try with_reducible rfl)
            (try simp only [Act.put, List.setIfInBounds_toArray, List.set_cons_zero, List.set_cons_succ])
            refine wpAnyH_take (i := 4) (oi := ⟨some 26, _, _, _, _, _⟩) (v := ?_) rfl (by kernel_rfl) (by kernel_rfl) (by kernel_rfl) (fun _ _ _ h => h) (Or.inl ⟨by kernel_rfl, ?_⟩) (by assumption) ?_
            rotate_left
            · (intro w hSw; (try dsimp only at hSw); go_simp; try with_reducible rfl)
            (try simp only [Act.put, List.setIfInBounds_toArray, List.set_cons_zero, List.set_cons_succ])
            refine wpAnyH_take (i := 5) (oi := ⟨some 27, _, _, _, _, _⟩) (v := ?_) rfl (by kernel_rfl) (by kernel_rfl) (by kernel_rfl) (fun _ _ _ h => h) (Or.inl ⟨by kernel_rfl, ?_⟩) (by assumption) ?_
            rotate_left
            · (intro w hSw; (try dsimp only at hSw); go_simp; try with_reducible rfl)
            (try simp only [Act.put, List.setIfInBounds_toArray, List.set_cons_zero, List.set_cons_succ])
            refine wpAnyH_take (i := 6) (oi := ⟨some 28, _, _, _, _, _⟩) (v := ?_) rfl (by kernel_rfl) (by kernel_rfl) (by kernel_rfl) (fun _ _ _ h => h) (Or.inl ⟨by kernel_rfl, ?_⟩) (by assumption) ?_
            rotate_left
            · (intro w hSw; (try dsimp only at hSw); go_simp; try with_reducible rfl)
            (try simp only [Act.put, List.setIfInBounds_toArray, List.set_cons_zero, List.set_cons_succ])
            refine wpAnyH_ready (rs := [3]) (by kernel_rfl) (by simp) ?_
            refine AllReadyH.cons (o := ⟨some 25, _, _, _, _, _⟩) rfl (fun K hK => ?_) AllReadyH.nil
            rw [if_pos (by kernel_rfl)]
            go_simp
            go_at_call 36; refine (HAX.out _ hkq).mono ?_; rintro e wa ⟨rfl, hba⟩
            have hka := hkq.trans (hba.mono hkq.size)
            refine hK.out _ _ ?_ (fun hHeld => ?_)
            · exact HSA.out _ hka
            clear hK K
            (try simp only [Act.put, List.setIfInBounds_toArray, List.set_cons_zero, List.set_cons_succ])
            refine wpAnyH_ready (rs := [7]) (by kernel_rfl) (by simp) ?_
            refine AllReadyH.cons (o := ⟨some 29, _, _, _, _, _⟩) rfl (fun K hK => ?_) AllReadyH.nil
            rw [if_pos (by kernel_rfl)]
            go_simp
            go_at_call 36; refine (HAY.out _ hka).mono ?_; rintro e wb ⟨rfl, hbb⟩
            have hkb := hka.trans (hbb.mono hka.size)
            refine hK.out _ _ ?_ (fun hHeld => ?_)
            · exact HSA.out _ hkb
            clear hK K
            (try simp only [Act.put, List.setIfInBounds_toArray, List.set_cons_zero, List.set_cons_succ])
            refine wpAnyH_take (i := 8) (oi := ⟨some 30, _, _, _, _, _⟩) (v := ?_) rfl (by kernel_rfl) (by kernel_rfl) (by kernel_rfl) (fun _ _ _ h => h) (Or.inl ⟨by kernel_rfl, ?_⟩) (by assumption) ?_
            rotate_left
            · (intro w hSw; (try dsimp only at hSw); go_simp; try with_reducible rfl)
            (try simp only [Act.put, List.setIfInBounds_toArray, List.set_cons_zero, List.set_cons_succ])
            refine wpAnyH_done (by kernel_rfl) ?_ _
            clear hHeld
            by_cases hne : n1 = n2
            · have hnb : ((n1 : Int) != (n2 : Int)) = false := by rw [hne]; simp
              have HNE := Lib.hid hne
              have HKN := Lib.hid hkb
              clear hkb hka hkq hba hbb hne
              go_wp2_with fail
              go_roundg (64 - (t + 1))
              case measure => have := HG2.out; omega
              case rel => exact ⟨t + 1, by omega, rfl, by go_num, HKN, Lib.hid (fun s hs => by
                by_cases e : s = t
                · subst e; rw [HN1.out, HN2.out, HNE.out]
                · exact HTE.out s (by omega))⟩
            · have hnb : ((n1 : Int) != (n2 : Int)) = true := by simp; omega
              have HYES : Hid (movedB x y = true) := Lib.hid (movedB_iff.2 ⟨c, hlt, .inr ⟨t, hlt2, by rw [HN1.out, HN2.out]; exact hne⟩⟩)
              have HBE := Lib.hid (HB2.out.trans (hkb.mono HB2.out.size))
              clear hkb hka hkq hba hbb hne
              go_wp2_with fail
              go_ret
              exact ⟨by rw [HYES.out]; rfl, HBE.out⟩
          · have ht64 : t = 64 := by omega
            subst ht64
            go_wp2_with fail
            go_roundg (16 - (c + 1))
            case measure => have := HG.out; omega
            case rel => exact ⟨c + 1, by omega, rfl, by go_num, HKI, Lib.hid (fun d hd => by
              by_cases e : d = c
              · subst e; exact ⟨HCE.out, HTE.out⟩
              · exact HEQ.out d (by omega))⟩
      | true =>
        have HYES : Hid (movedB x y = true) := Lib.hid (movedB_iff.2 ⟨c, hlt, .inl (by rw [HB1.out, HBB.out]; exact HQ.out.1 rfl)⟩)
        have HBE := Lib.hid (HB2.out.trans (hkb.mono HB2.out.size))
        clear hkb hka hkd hba hbb
        go_wp2_with fail
        go_ret
        exact ⟨by rw [HYES.out]; rfl, HBE.out⟩
    · have HNO : Hid (movedB x y = false) := Lib.hid (by
        rw [← Bool.not_eq_true, movedB_iff]
        rintro ⟨d, hd, h⟩
        obtain ⟨k1, k2⟩ := HEQ.out d (by omega)
        rcases h with h | ⟨t, ht, h⟩
        · exact h k1
        · exact h (k2 t ht))
      have HBE := Lib.hid (HB2.out.trans (HK.out.mono HB2.out.size))
      go_wp2_with fail
      go_ret
      exact ⟨by rw [HNO.out]; rfl, HBE.out⟩
end Go.Proofs.Ytincbilobmhgeaa
