/-
  slices.SortFunc of members by their units; New by contract.
  Conditions: the slice reads as wants of ints.
-/
import Derived.Test.YtpfpojehcjmfnaaGreatT03
import Derived.Test.YtpfpojehcjmfnaaGreatT23
import Derived.Test.YtpfpojehcjmfnaaGreatT17
import Derived.Laws.MakeOwn
import Derived.Shelf.SlGeneric
import Derived.Shelf.SlSortCmp.WholeK
import Derived.Ground.SlsfProg
import Derived.Test.YtpfpojehcjmfnaaGreatProg
import Derived.Lib.SliceRun
import Derived.Shelf.RegionOpenPlain
import Derived.Test.YtpfpojehcjmfnaaGreatT20
import Derived.Shelf.SlSortCmp.QuietGrown
import Derived.Test.YtpfpojehcjmfnaaGreatT14
import Derived.Test.YtpfpojehcjmfnaaGreatT10
import Derived.Shelf.SlSortCmp.NoneTotal

/-
  Wants and Total of a local.
  Conditions: the local lies in memory; its numbers are small.
-/
set_option linter.unusedVariables false
namespace Go.Proofs.YtpfpojehcjmfnaaGreat
open Go.RowKit Go.Sort

theorem rowC_zero : ∀ n : Nat, rowC (List.replicate n (⟨0, 0, 0⟩ : Lm)) = List.replicate (n * 3) (.int .i64 0)
  | 0 => rfl
  | n + 1 => by
    rw [List.replicate_succ, rowC_cons, rowC_zero n, show (n + 1) * 3 = n * 3 + 1 + 1 + 1 by omega, List.replicate_succ, List.replicate_succ, List.replicate_succ]
    rfl
theorem made_three (m : Nat) : madeCells #[.int .i64 0, .int .i64 0, .int .i64 0] m = (List.replicate m (Value.int .i64 0)).toArray := by
  apply Array.ext
  · simp [madeCells]
  · intro i h1 h2
    have h4 : i % 3 = 0 ∨ i % 3 = 1 ∨ i % 3 = 2 := by omega
    rcases h4 with h | h | h <;> simp [madeCells, h]
theorem mk_wantsM (W : World) (n : Nat) (h : n ≤ 1000) : (Instr.makeSlice 23 (.int .i64 (n : Int)) (.int .i64 (n : Int))).run Tryz.prog W = .ok (.slice (some ⟨W.heap.size, 0, none⟩) n n) (W.alloc (.cells (spansCells (List.replicate n ((0 : Int), (0 : Int)))).toArray 52)) := by
  obtain ⟨i, hi, e⟩ := Option.map_eq_some_iff.1 Tryz.infoSpan
  simp only [Prod.mk.injEq] at e
  obtain ⟨e1, e2, e3⟩ := e
  have hr := run_make (P := Tryz.prog) W 23 52 i (.agg #[.int .i64 0, .int .i64 0]) Tryz.underlying23 hi e1 .i64 .i64 n n (by omega) (Int.le_refl _) (by rw [e3]; omega) (by omega)
  rw [hr, e2]
  simp only [Int.toNat_natCast]
  rw [show (Value.agg #[.int .i64 0, .int .i64 0]).cells = #[.int .i64 0, .int .i64 0] from rfl, made_two, spans_zero]
theorem mk_members (W : World) (n : Nat) (h : n ≤ 1000) : (Instr.makeSlice 98 (.int .i64 (n : Int)) (.int .i64 (n : Int))).run Tryz.prog W = .ok (.slice (some ⟨W.heap.size, 0, none⟩) n n) (W.alloc (.cells (rowC (List.replicate n (⟨0, 0, 0⟩ : Lm))).toArray 100)) := by
  obtain ⟨i, hi, e⟩ := Option.map_eq_some_iff.1 Tryz.infoMb
  simp only [Prod.mk.injEq] at e
  obtain ⟨e1, e2, e3⟩ := e
  have hr := run_make (P := Tryz.prog) W 98 100 i (.agg #[.int .i64 0, .int .i64 0, .int .i64 0]) Tryz.underlying98 hi e1 .i64 .i64 n n (by omega) (Int.le_refl _) (by rw [e3]; omega) (by omega)
  rw [hr, e2]
  simp only [Int.toNat_natCast]
  rw [show (Value.agg #[.int .i64 0, .int .i64 0, .int .i64 0]).cells = #[.int .i64 0, .int .i64 0, .int .i64 0] from rfl, made_three, rowC_zero]
theorem own_madeM (W : World) (base e size n : Nat) (xs : List Value) (hx : xs.length = n * size) (hb : base ≤ W.heap.size) (hn : n ≤ 1000) :
    (W.alloc (.cells xs.toArray e)).ownsRow base e size (.slice (some ⟨W.heap.size, 0, none⟩) n n) n xs :=
  ⟨hx, .inr ⟨W.heap.size, n, xs.toArray, rfl, hb, heap_alloc_new W _, Nat.le_refl _, by unfold maxLen; omega, by simpa using hx, by rw [← hx]; simp⟩⟩
theorem mb_new (w : World) (B : Nat) (hB : w.heap.size = B) (m : Lm) : let w1 := w.alloc (.cells #[.int .i64 m.u, .int .i64 m.s, .int .i64 m.g] 100); w1.cell? ⟨B, 0, none⟩ = some (.int .i64 m.u) ∧ w1.cell? ⟨B, 1, none⟩ = some (.int .i64 m.s) ∧ w1.cell? ⟨B, 2, none⟩ = some (.int .i64 m.g) := by
  subst hB
  exact ⟨World.cell?_alloc_new (w := w) _ _ 0, World.cell?_alloc_new (w := w) _ _ 1, World.cell?_alloc_new (w := w) _ _ 2⟩

set_option maxRecDepth 100000 in
set_option maxHeartbeats 2000000 in
theorem wantsM_any (W : World) (rb : Nat) (mv : Value) (l : List Lm) (h : LocAt W rb mv l) (hl : l.length ≤ 1000) :
    Calls Tryz.prog 73 #[.pointer (some ⟨rb, 0, none⟩)] W (RetO W.heap.size 52 (wantsM l) W) := by
  have HR := Lib.hid h
  obtain ⟨c1, _⟩ := h.heads
  obtain ⟨A, c, rfl⟩ := h.form
  obtain ⟨n, hn⟩ : ∃ n, l.length = n := ⟨_, rfl⟩
  rw [hn] at HR h c1 hl
  have HN := Lib.hid hn
  have hmk := mk_wantsM W n hl
  obtain ⟨b, hb⟩ : ∃ b, W.heap.size = b := ⟨_, rfl⟩
  obtain ⟨w1, hw1⟩ : ∃ w1, W.alloc (.cells (spansCells (List.replicate n ((0 : Int), (0 : Int)))).toArray 52) = w1 := ⟨_, rfl⟩
  have HB1 : Hid (Below W.heap.size W w1) := by rw [← hw1]; exact (Below.refl _ W).alloc (Nat.le_refl _) _
  have HO1 : Hid (w1.ownsRow W.heap.size 52 2 (.slice (some ⟨b, 0, none⟩) n n) n (spansCells (List.replicate n ((0 : Int), (0 : Int))))) := by
    rw [← hw1, ← hb]
    exact own_madeM W _ _ 2 n _ (by rw [spansCells_length, List.length_replicate]) (Nat.le_refl _) hl
  rw [hw1, hb] at hmk
  have HSZ := Lib.hid hb
  have HR1 := Lib.hid (HR.out.below HB1.out)
  obtain ⟨c1', _⟩ := HR1.out.heads
  have hn0 : (0 : Int) ≤ (n : Int) := by omega
  clear h hn hw1 hb
  go_enter Tryz.func73, Tryz.ntmps73
  go_wp2_with fail
  go_loopg [4, 5, 19] n (fun gg _ _ s wr => ∃ (k : Nat) (D : List Sp), k ≤ n ∧ gg = n - k ∧ s = .int .i64 k ∧ Below W.heap.size W wr ∧ D.length = n ∧ wr.ownsRow W.heap.size 52 2 (.slice (some ⟨b, 0, none⟩) n n) n (spansCells D) ∧ ∀ (j : Nat), j < k → D[j]? = (wantsM l)[j]?)
  case atStart => exact ⟨0, _, Nat.zero_le _, by omega, rfl, HB1.out, List.length_replicate, HO1.out, fun j hj => absurd hj (Nat.not_lt_zero _)⟩
  case round =>
    obtain ⟨k, D, hk, hg, rfl, hbw, hD, hown, hsame⟩ := hrel
    have HB := Lib.hid hbw
    have HG := Lib.hid hg
    have HD := Lib.hid hD
    have HO := Lib.hid hown
    have HS := Lib.hid hsame
    have HRR := Lib.hid (HR.out.below hbw)
    clear hbw hg hD hown hsame c1 c1'
    by_cases hlt : k < n
    · have hltz : (k : Int) < (n : Int) := by omega
      have hk0 : (0 : Int) ≤ (k : Int) := by omega
      obtain ⟨m, hm⟩ := ex_at (xs := l) (k := k) (by rw [HN.out]; exact hlt)
      have HM : Hid ((wantsM l)[k]? = some ((m.u : Int), (m.s : Int))) := by unfold wantsM; rw [List.getElem?_map, hm]; rfl
      obtain ⟨g, cap, hA, hgl, hgne, _, _, ⟨a0, a1, a2⟩, _⟩ := HRR.out.at_ hm
      injection hA with hA hA1 hA2; clear hA1 hA2
      subst hA
      obtain ⟨m1, m2, m3⟩ := m
      simp only at a0 a1 a2 HM
      obtain ⟨w2, hw2⟩ : ∃ w2, wr.alloc (.cells #[.int .i64 m1, .int .i64 m2, .int .i64 m3] 100) = w2 := ⟨_, rfl⟩
      obtain ⟨N, hN⟩ : ∃ N, wr.heap.size = N := ⟨_, rfl⟩
      have hb2 : Below wr.heap.size wr w2 := by rw [← hw2]; exact (Below.refl _ wr).alloc (Nat.le_refl _) _
      obtain ⟨n0, n1, n2⟩ := mb_new wr N hN ⟨m1, m2, m3⟩
      simp only [hw2] at n0 n1 n2
      have HO2 := Lib.hid (own_below5 HO.out hb2)
      have HB2 := Lib.hid (HB.out.trans (hb2.mono HB.out.size))
      have HOD : Hid (w2.ownsRow W.heap.size 52 2 (.slice (some ⟨b, 0, none⟩) n n) D.length (spansCells D)) := by rw [HD.out]; exact HO2.out
      obtain ⟨q, hq⟩ := ex_at (xs := D) (k := k) (by rw [HD.out]; exact hlt)
      have hown' : w2.ownsRow W.heap.size 52 2 (.slice (some ⟨b, 0, none⟩) D.length n) D.length (spansCells D) := by rw [HD.out]; exact HO2.out
      obtain ⟨g', cap', hA', _, _, _, _, hat, hfr⟩ := own_lies hown' (by rw [HD.out]; omega)
      injection hA' with hA' hA1 hA2; clear hA1 hA2
      injection hA' with hA'
      injection hA' with hA'
      subst hA'
      obtain ⟨t0, t1⟩ := hat k q hq
      have f0 := hfr (k * 2) (by rw [HD.out]; omega)
      have f1 := hfr (k * 2 + 1) (by rw [HD.out]; omega)
      have HO3 : Hid (((w2.setCell ⟨b, k * 2, none⟩ (.int .i64 m1)).setCell ⟨b, k * 2 + 1, none⟩ (.int .i64 m2)).ownsRow W.heap.size 52 2 (.slice (some ⟨b, 0, none⟩) n n) n (spansCells (D.set k ((m1 : Int), (m2 : Int))))) := by
        rw [← spansCells_set D k q ((m1 : Int), (m2 : Int)) hq]
        exact own_set (own_set HO2.out _) _
      clear hb2 hm hat hfr hq hown'
      go_wp2_with fail
      go_roundg (n - (k + 1))
      case measure => have := HG.out; omega
      case rel =>
        have hbb : W.heap.size ≤ b := Nat.le_of_eq HSZ.out
        refine ⟨k + 1, _, Nat.succ_le_of_lt hlt, rfl, by go_num, ?_, ?_, HO3.out, same_till HS.out HM.out (by rw [HD.out]; exact hlt)⟩
        · exact (HB2.out.setCell (p := ⟨b, k * 2, none⟩) hbb _).setCell (p := ⟨b, k * 2 + 1, none⟩) hbb _
        · rw [List.length_set]; exact HD.out
    · have hltz : ¬ (k : Int) < (n : Int) := by omega
      have hkn : k = n := by omega
      have hwl : (wantsM l).length = n := by unfold wantsM; rw [List.length_map]; exact HN.out
      have HDE : Hid (D = wantsM l) := same_end (fun j hj => HS.out j (by omega)) (by rw [HD.out, hwl])
      have HEND : Hid (∀ e, e = .returned (.slice (some ⟨b, 0, none⟩) n n) → RetO W.heap.size 52 (wantsM l) W e wr) := fun e he => ⟨_, he, by rw [hwl, ← HDE.out]; exact HO.out, HB.out⟩
      go_wp2
      go_ret
      exact HEND.out _ rfl
theorem totL_want : ∀ (l : List Lm) (t : Int), 0 ≤ t → t + (sumM l : Int) ≤ 9223372036854775807 → totL t (wantsM l) = some (t + (sumM l : Int))
  | [], t, _, _ => by show some t = some (t + ((0 : Nat) : Int)); simp
  | m :: l, t, h1, h2 => by
    have e : sumM (m :: l) = m.s + sumM l := rfl
    rw [e] at h2
    have ha : addO t (m.s : Int) = some (t + (m.s : Int)) := by unfold addO; rw [if_pos (by omega)]
    show totL t (((m.u : Int), (m.s : Int)) :: wantsM l) = _
    rw [totL_some (t' := t + (m.s : Int)) ha, totL_want l _ (by omega) (by omega), e]
    congr 1
    omega
theorem totT_want (l : List Lm) (h : sumM l ≤ 1000000) : totT (wantsM l) = some (sumM l : Int) := by
  have := totL_want l 0 (Int.le_refl _) (by omega)
  rwa [Int.zero_add] at this
theorem ints_want {G : Nat} {l : List Lm} (h : OkL G l) : IntsS (wantsM l) := by
  intro s hs
  obtain ⟨m, hm, rfl⟩ := List.mem_map.1 hs
  have h1 := (h.unit m hm).2
  have h2 := h.s64 hm
  exact ⟨⟨by show _ ≤ (m.u : Int); omega, by show (m.u : Int) ≤ _; omega⟩, ⟨by show _ ≤ (m.s : Int); omega, by show (m.s : Int) ≤ _; omega⟩⟩
theorem total_loc {G : Nat} (W : World) (rb : Nat) (mv : Value) (l : List Lm) (h : LocAt W rb mv l) (ho : OkL G l) :
    Calls Tryz.prog 36 #[.pointer (some ⟨rb, 0, none⟩)] W (RetB (.int .i64 (sumM l : Nat)) W) := by
  have hlen := ho.len
  have HW := Lib.hid (wantsM_any W rb mv l h (by omega))
  have hwl : (wantsM l).length ≤ 2000000 := by unfold wantsM; rw [List.length_map]; omega
  have HT := Lib.hid (fun (w : World) (v : Value) (hv : SpansAt w v (wantsM l)) => total_any v (wantsM l) w hv (ints_want ho))
  have hf := ho.full
  rw [totT_want l (by omega)] at HT
  have HWL := Lib.hid hwl
  obtain ⟨S, hS⟩ : ∃ S, sumM l = S := ⟨_, rfl⟩
  rw [hS] at HT ⊢
  clear h ho hlen hwl hf hS
  go_enter Tryz.func36, Tryz.ntmps36
  go_wp2_with fail
  refine HW.out.mono ?_
  rintro e w1 ⟨v, rfl, hown, hb⟩
  have HB := Lib.hid hb
  have HS := Lib.hid (spans_of_own hown HWL.out)
  clear hown hb
  go_wp2_with fail
  refine (HT.out _ _ HS.out).mono ?_
  rintro e w2 ⟨rfl, hb⟩
  have HB2 := Lib.hid (HB.out.trans (hb.mono HB.out.size))
  clear hb
  go_wp2
  go_ret
  exact ⟨rfl, HB2.out⟩
end Go.Proofs.YtpfpojehcjmfnaaGreat

/-
  DERIVED: THE SHELF's CONTRACTS AT THIS DUMP, IN PLAIN WORDS (tools/lay-plain.mjs out of 'TryShelf20lTryz.lean', which tools/lay-shelf.mjs wrote): THE SAME DECLARATIONS UNDER THE SAME NAMES: 'import', 'namespace', 'open', 'def', 'theorem' AND NOTHING ELSE: no command of the shelf's: FOR A HAND-IN. Each laying: the table of numbers ('.._ren') and one theorem, a field a fact of the dump's own or the kernel's comparison; each contract: ONE APPLICATION.
-/
namespace Go.Proofs
open Go.Shelf
def Tryz.sort6_ren : Go.Shelf.Ren := ⟨fun | 6 => 60 | 15 => 109 | 14 => 108 | 28 => 156 | 29 => 157 | 20 => 148 | 21 => 149 | 22 => 150 | 23 => 151 | 24 => 152 | 25 => 153 | 26 => 154 | 27 => 155 | 46 => 177 | 47 => 178 | 48 => 179 | 49 => 180 | 50 => 181 | 57 => 196 | n => n, fun | 22 => 98 | 24 => 100 | 25 => 103 | 3 => 3 | 39 => 154 | 0 => 0 | 53 => 22 | 55 => 82 | 4 => 4 | 46 => 181 | 45 => 180 | 50 => 41 | 5 => 5 | 9 => 9 | 66 => 205 | 70 => 209 | 76 => 219 | 77 => 220 | n => n, fun | n => n⟩
theorem Tryz.sort6 : Go.Proofs.SlLaysF0.n6 Tryz.prog Tryz.sort6_ren := {
  mixed := by kernel_rfl
  f6 := ⟨Tryz.f60.name, by decide, Tryz.func60.trans (congrArg some (by kernel_rfl))⟩
  f14 := ⟨Tryz.f108.name, by decide, Tryz.func108.trans (congrArg some (by kernel_rfl))⟩
  f15 := Tryz.func109.trans (congrArg some (by kernel_rfl))
  f20 := ⟨Tryz.f148.name, by decide, Tryz.func148.trans (congrArg some (by kernel_rfl))⟩
  f21 := ⟨Tryz.f149.name, by decide, Tryz.func149.trans (congrArg some (by kernel_rfl))⟩
  f22 := ⟨Tryz.f150.name, by decide, Tryz.func150.trans (congrArg some (by kernel_rfl))⟩
  f23 := ⟨Tryz.f151.name, by decide, Tryz.func151.trans (congrArg some (by kernel_rfl))⟩
  f24 := ⟨Tryz.f152.name, by decide, Tryz.func152.trans (congrArg some (by kernel_rfl))⟩
  f25 := ⟨Tryz.f153.name, by decide, Tryz.func153.trans (congrArg some (by kernel_rfl))⟩
  f26 := ⟨Tryz.f154.name, by decide, Tryz.func154.trans (congrArg some (by kernel_rfl))⟩
  f27 := ⟨Tryz.f155.name, by decide, Tryz.func155.trans (congrArg some (by kernel_rfl))⟩
  f28 := Tryz.func156.trans (congrArg some (by kernel_rfl))
  f29 := Tryz.func157.trans (congrArg some (by kernel_rfl))
  f46 := ⟨Tryz.f177.name, by decide, Tryz.func177.trans (congrArg some (by kernel_rfl))⟩
  f47 := Tryz.func178.trans (congrArg some (by kernel_rfl))
  f48 := Tryz.func179.trans (congrArg some (by kernel_rfl))
  f49 := ⟨Tryz.f180.name, by decide, Tryz.func180.trans (congrArg some (by kernel_rfl))⟩
  f50 := ⟨Tryz.f181.name, by decide, Tryz.func181.trans (congrArg some (by kernel_rfl))⟩
  f57 := ⟨Tryz.f196.name, by decide, Tryz.func196.trans (congrArg some (by kernel_rfl))⟩
  t0 := Tryz.underlying0
  a0 := Tryz.isAgg0
  z0 := Tryz.sizeOf0
  v0 := Tryz.zeroValue0
  t3 := Tryz.underlying3
  a3 := Tryz.isAgg3
  z3 := Tryz.sizeOf3
  v3 := Tryz.zeroValue3
  t4 := Tryz.underlying4
  a4 := Tryz.isAgg4
  z4 := Tryz.sizeOf4
  v4 := Tryz.zeroValue4
  t5 := Tryz.underlying5
  a5 := Tryz.isAgg5
  z5 := Tryz.sizeOf5
  v5 := Tryz.zeroValue5
  t9 := Tryz.underlying9
  a9 := Tryz.isAgg9
  z9 := Tryz.sizeOf9
  v9 := Tryz.zeroValue9
  t22 := Tryz.underlying98
  a22 := Tryz.isAgg98
  z22 := Tryz.sizeOf98
  v22 := Tryz.zeroValue98
  t25 := Tryz.underlying103
  a25 := Tryz.isAgg103
  z25 := Tryz.sizeOf103
  v25 := Tryz.zeroValue103
  t39 := Tryz.underlying154
  a39 := Tryz.isAgg154
  z39 := Tryz.sizeOf154
  v39 := Tryz.zeroValue154
  t45 := Tryz.underlying180
  a45 := Tryz.isAgg180
  z45 := Tryz.sizeOf180
  v45 := Tryz.zeroValue180
  t46 := Tryz.underlying181
  a46 := Tryz.isAgg181
  z46 := Tryz.sizeOf181
  v46 := Tryz.zeroValue181
  t50 := Tryz.underlying41
  a50 := Tryz.isAgg41
  z50 := Tryz.sizeOf41
  v50 := Tryz.zeroValue41
  t53 := Tryz.underlying22
  a53 := Tryz.isAgg22
  z53 := Tryz.sizeOf22
  v53 := Tryz.zeroValue22
  t55 := Tryz.underlying82
  a55 := Tryz.isAgg82
  z55 := Tryz.sizeOf82
  v55 := Tryz.zeroValue82
  t66 := Tryz.underlying205
  a66 := Tryz.isAgg205
  z66 := Tryz.sizeOf205
  v66 := Tryz.zeroValue205
  t70 := Tryz.underlying209
  a70 := Tryz.isAgg209
  z70 := Tryz.sizeOf209
  v70 := Tryz.zeroValue209
  t76 := Tryz.underlying219
  a76 := Tryz.isAgg219
  z76 := Tryz.sizeOf219
  v76 := Tryz.zeroValue219
  t77 := Tryz.underlying220
  a77 := Tryz.isAgg220
  z77 := Tryz.sizeOf220
  v77 := Tryz.zeroValue220 }
end Go.Proofs

/-
  A slice that reads as a list of ints; slices.Contains over it, and the document's Has.
  Conditions: none.
-/
set_option linter.unusedVariables false
namespace Go.Proofs.YtpfpojehcjmfnaaGreat
open Go.RowKit

/-- The slice value 'v' reads as the numbers 'xs'; it lies in memory that is there. -/
def IntsM (W : World) (v : Value) (xs : List Int) : Prop :=
  ∃ A c, v = .slice A xs.length c ∧ xs.length ≤ c ∧ c ≤ 9223372036854775807 ∧
    (0 < xs.length → ∃ b off, A = some ⟨b, off, none⟩ ∧ b < W.heap.size ∧ ∀ (j : Nat) (x : Int), xs[j]? = some x → W.cell? ⟨b, off + j, none⟩ = some (.int .i64 x))
theorem IntsM.nil (W : World) : IntsM W (.slice none 0 0) [] := ⟨none, 0, rfl, Nat.le_refl _, by decide, fun h => absurd h (by decide)⟩
theorem IntsM.keep {W W' : World} {v : Value} {xs : List Int} (h : IntsM W v xs) (hb : Below W.heap.size W W') : IntsM W' v xs := by
  obtain ⟨A, c, h1, h2, h2', h3⟩ := h
  refine ⟨A, c, h1, h2, h2', fun hn => ?_⟩
  obtain ⟨b, off, e, hlt, hc⟩ := h3 hn
  exact ⟨b, off, e, Nat.lt_of_lt_of_le hlt hb.size, fun j x hx => (hb.cell (p := ⟨b, off + j, none⟩) hlt).trans (hc j x hx)⟩
theorem IntsM.form {W : World} {v : Value} {xs : List Int} (h : IntsM W v xs) : ∃ A c, v = .slice A xs.length c := by
  obtain ⟨A, c, h1, _⟩ := h
  exact ⟨A, c, h1⟩
theorem exI_at {xs : List Int} {k : Nat} (h : k < xs.length) : ∃ x, xs[k]? = some x := ⟨xs[k], List.getElem?_eq_getElem h⟩

/-- Is it there? -/
def hasI (xs : List Int) (u : Int) : Bool := xs.contains u
theorem has_yes {xs : List Int} {k : Nat} {x : Int} (h : xs[k]? = some x) : hasI xs x = true := by
  unfold hasI
  rw [List.contains_iff_mem]
  exact List.mem_of_getElem? h
theorem has_no {xs : List Int} {u : Int} (h : ∀ (j : Nat) (x : Int), j < xs.length → xs[j]? = some x → x ≠ u) : hasI xs u = false := by
  cases hc : hasI xs u with
  | false => rfl
  | true =>
    unfold hasI at hc
    rw [List.contains_iff_mem] at hc
    obtain ⟨j, hj, e⟩ := List.getElem_of_mem hc
    exact absurd rfl (h j u hj (by rw [List.getElem?_eq_getElem hj, e]))

set_option maxRecDepth 100000 in
set_option maxHeartbeats 2000000 in
theorem indexI_any (v : Value) (xs : List Int) (u : Int) (w : World) (h : IntsM w v xs) :
    Calls Tryz.prog 158 #[v, .int .i64 u] w (fun e w' => w = w' ∧ ((e = .returned (.int .i64 (-1)) ∧ hasI xs u = false) ∨ ∃ k : Nat, e = .returned (.int .i64 k) ∧ hasI xs u = true)) := by
  obtain ⟨A, c, rfl, h2, h2', h3⟩ := h
  have HC := Lib.hid h3
  generalize hn : xs.length = n at *
  have HN := Lib.hid hn
  clear h3 hn
  go_enter Tryz.func158, Tryz.ntmps158
  go_wp2
  go_loopg [5, 8] n (fun gg _ s wr => ∃ k : Nat, k ≤ n ∧ gg = n - k ∧ s = .int .i64 k ∧ w = wr ∧ ∀ (j : Nat) (x : Int), j < k → xs[j]? = some x → x ≠ u)
  case atStart => exact ⟨0, Nat.zero_le _, by omega, rfl, rfl, fun j x hj => absurd hj (Nat.not_lt_zero _)⟩
  case round =>
    obtain ⟨k, hk, hg, rfl, rfl, hall⟩ := hrel
    have HALL := Lib.hid hall
    have HG := Lib.hid hg
    clear hall hg
    by_cases hlt : k < n
    · have hltz : (k : Int) < (n : Int) := by omega
      obtain ⟨b, off, rfl, hbl, hcell⟩ := HC.out (by omega)
      obtain ⟨y, hy⟩ := exI_at (xs := xs) (k := k) (by rw [HN.out]; exact hlt)
      have c1 := hcell k y hy
      have HY := Lib.hid hy
      clear hcell hy
      cases hq : (u == y) with
      | true =>
        have e : u = y := by simpa using hq
        subst e
        go_wp2
        go_ret
        exact ⟨rfl, .inr ⟨_, rfl, has_yes HY.out⟩⟩
      | false =>
        have e : ¬ u = y := by simpa using hq
        have HE := Lib.hid e
        clear e
        go_wp2
        go_roundg (n - (k + 1))
        case measure => have := HG.out; omega
        case rel =>
          refine ⟨k + 1, by omega, rfl, by go_num, rfl, fun j x hj hx => ?_⟩
          by_cases e : j = k
          · subst e
            have := HY.out
            rw [this] at hx
            rw [← Option.some.inj hx]
            exact fun h => HE.out h.symm
          · exact HALL.out j x (by omega) hx
    · have hltz : ¬ (k : Int) < (n : Int) := by omega
      go_wp2
      go_ret
      exact ⟨rfl, .inl ⟨rfl, has_no fun j x hj hx => HALL.out j x (by have := HN.out; omega) hx⟩⟩
theorem contains_ints (v : Value) (xs : List Int) (u : Int) (w : World) (h : IntsM w v xs) :
    Calls Tryz.prog 111 #[v, .int .i64 u] w (Ret (.bool (hasI xs u)) w) := by
  have HC := Lib.hid (indexI_any v xs u w h)
  obtain ⟨A, c, rfl⟩ := h.form
  clear h
  go_enter Tryz.func111, Tryz.ntmps111
  go_wp2_with fail
  refine HC.out.mono ?_
  rintro e w' ⟨rfl, ⟨rfl, hr⟩ | ⟨k, rfl, hr⟩⟩
  · have HH := Lib.hid hr
    clear hr
    go_wp2
    go_ret
    exact ⟨by rw [HH.out]; rfl, rfl⟩
  · have HH := Lib.hid hr
    clear hr
    have hk : (0 : Int) ≤ (k : Int) := by omega
    go_wp2
    go_ret
    exact ⟨by rw [HH.out]; rfl, rfl⟩
end Go.Proofs.YtpfpojehcjmfnaaGreat

/-
  Calls that read, draw and lay blocks of their own; which of two members' values is less.
  Conditions: the numbers are small.
-/
set_option linter.unusedVariables false
namespace Go.Proofs.YtpfpojehcjmfnaaGreat
open Go.RowKit Go.Sort

/-- The world but for draws and blocks that were laid. -/
def Grown (w w' : World) : Prop := ∃ q os', w' = grow (w.drewN q) os'
theorem Grown.refl (w : World) : Grown w w := ⟨0, #[], by rw [grow_empty]; rfl⟩
theorem Grown.alloc {w w' : World} (h : Grown w w') (o : Obj) : Grown w (w'.alloc o) := by
  obtain ⟨q, os', rfl⟩ := h
  exact ⟨q, os' ++ #[o], by rw [alloc_eq_grow, grow_grow]⟩
theorem grow_below (w : World) (os : Array Obj) : Below w.heap.size w (grow w os) := ⟨rfl, rfl, rfl, by simp [grow], fun k hk => by
  show (w.heap ++ os)[k]? = w.heap[k]?
  rw [Array.getElem?_append_left hk]⟩
theorem Grown.below {w w' : World} (h : Grown w w') : Below w.heap.size w w' := by
  obtain ⟨q, os, rfl⟩ := h
  exact (below_drewN (Below.refl w.heap.size w) q).trans (grow_below (w.drewN q) os)
/-- What a call answers that reads, may draw, and lays blocks of its own. -/
def RetG (v : Value) (w : World) (e : Ending) (w' : World) : Prop := e = .returned v ∧ Grown w w'
theorem grown_met {f : FuncId} {args : Array Value} {w : World} {n : Nat} {os : Array Obj} {v : Value} (h : Calls Tryz.prog f args (grow (w.drewN n) os) (RetG v (grow (w.drewN n) os))) :
    Calls Tryz.prog f args (grow (w.drewN n) os) fun e w'' => e = .returned v ∧ ∃ p : GrownBy, w'' = grow (w.drewN p.n) p.os :=
  Calls.grown_of (h.mono fun _ _ h => h)

/-- An operation whose guard is struck. -/
theorem struck_if {b : Bool} {p q : Prop} (hb : b = false) (h : q) : if b = true then p else q := by
  rw [hb]
  exact h
theorem grew_on {B : Nat} {w w1 : World} (h : Below B w w1) (hB : B < w1.heap.size) (n : Nat) (os : Array Obj) : Below B w (grow (w1.drewN n) os) :=
  (below_drewN h n).trans ((grow_below (w1.drewN n) os).mono (show B ≤ w1.heap.size from Nat.le_of_lt hB))
theorem cmp_lt {x y : Nat} (h : x < y) : cmpN x y = -1 := by unfold cmpN; rw [if_pos h]
theorem cmp_ge {x y : Nat} (h : ¬ x < y) : decide (cmpN x y < 0) = false := by
  unfold cmpN
  rw [if_neg h]
  split <;> rfl
theorem u64_small {a : Nat} (h : a < 18446744073709551616) : IntKind.u64.wrap (a : Int) = (a : Int) := by rw [IntKind.wrap_u64]; omega

set_option maxRecDepth 100000 in
theorem before_any (m o : Lm) (hm : m.g ≤ 1000000) (ho : o.g ≤ 1000000) (h1 : 0 < m.s) (h2 : m.s ≤ 64) (h3 : 0 < o.s) (h4 : o.s ≤ 64) (W : World) :
    Calls Tryz.prog 112 #[mbA m, mbA o] W (RetG (.bool (decide ((m.g + 1) * o.s < (o.g + 1) * m.s))) W) := by
  obtain ⟨u1, s1, g1⟩ := m
  obtain ⟨u2, s2, g2⟩ := o
  simp only at *
  unfold mbA
  simp only
  have HC := Lib.hid (fun W => compare_ok (g1 + 1) s1 (g2 + 1) s2 (by omega) (by omega) (by omega) (by omega) (by simp; omega) (by simp; omega) W)
  have hv : decide (cmpN ((g1 + 1) * s2) ((g2 + 1) * s1) < 0) = decide ((g1 + 1) * s2 < (g2 + 1) * s1) := by
    by_cases h : (g1 + 1) * s2 < (g2 + 1) * s1
    · rw [cmp_lt h, decide_eq_true h]; rfl
    · rw [cmp_ge h, decide_eq_false h]
  rw [← hv]
  generalize cmpN ((g1 + 1) * s2) ((g2 + 1) * s1) = r at *
  obtain ⟨a, ha⟩ : ∃ a, g1 + 1 = a := ⟨_, rfl⟩
  obtain ⟨c, hc⟩ : ∃ c, g2 + 1 = c := ⟨_, rfl⟩
  have e1 : (g1 : Int) + 1 = (a : Int) := by omega
  have e2 : (g2 : Int) + 1 = (c : Int) := by omega
  have b1 : (a : Int) ≤ 1000001 := by omega
  have b2 : (c : Int) ≤ 1000001 := by omega
  have b3 : (s1 : Int) ≤ 64 := by omega
  have b4 : (s2 : Int) ≤ 64 := by omega
  rw [ha, hc] at HC
  clear hv ha hc hm ho h1 h2 h3 h4
  go_enter Tryz.func112, Tryz.ntmps112
  go_wp2_with (go_at_call 159; refine (HC.out _).mono ?_; rintro e w1 ⟨rfl, rfl⟩)
  all_goals go_ret
  all_goals exact ⟨by simp_all, ((Grown.refl W).alloc _).alloc _⟩
end Go.Proofs.YtpfpojehcjmfnaaGreat

/-
  slices.SortFunc of members by their units; New by contract.
  Conditions: the slice reads as wants of ints.
-/
set_option linter.unusedVariables false
namespace Go.Proofs.YtpfpojehcjmfnaaGreat
open Go.RowKit Go.Sort Go.Lib

instance : Inhabited Lm := ⟨⟨0, 0, 0⟩⟩
theorem flat_mb (l : List Lm) : flatK mbCells 3 l.toArray = (rowC l).toArray := by
  apply Array.ext
  · simp [rowC_length]
  · intro t h1 h2
    have ht : t < l.length * 3 := by simpa [rowC_length] using h2
    have hj : t / 3 < l.length := by omega
    obtain ⟨g1, g2, g3⟩ := rowC_get l (t / 3) _ (List.getElem?_eq_getElem hj)
    have e0 : (flatK mbCells 3 l.toArray)[t]'h1 = (flatK mbCells 3 l.toArray)[t]! := (getElem!_pos _ t h1).symm
    rw [e0, get_flatK _ _ _ _ (by simpa using ht)]
    have e1 : l.toArray[t / 3]! = l[t / 3] := by rw [getElem!_pos l.toArray (t / 3) (by simpa using hj)]; simp
    rw [e1]
    have e2 : ((rowC l).toArray)[t]'h2 = (rowC l)[t]'(by simpa using h2) := by simp
    rw [e2]
    have h3 : t % 3 = 0 ∨ t % 3 = 1 ∨ t % 3 = 2 := by omega
    rcases h3 with h | h | h
    · rw [h]
      have : t / 3 * 3 = t := by omega
      rw [this] at g1
      have := (List.getElem?_eq_some_iff.1 g1).2
      rw [this]; rfl
    · rw [h]
      have : t / 3 * 3 + 1 = t := by omega
      rw [this] at g2
      have := (List.getElem?_eq_some_iff.1 g2).2
      rw [this]; rfl
    · rw [h]
      have : t / 3 * 3 + 2 = t := by omega
      rw [this] at g3
      have := (List.getElem?_eq_some_iff.1 g3).2
      rw [this]; rfl

def cmpM (x y : Lm) : Int := cmpI (x.u : Int) (y.u : Int)
theorem ltM (x y : Lm) : ltOf cmpM x y = decide (x.u < y.u) := by
  show decide (cmpI (x.u : Int) (y.u : Int) < 0) = _
  unfold cmpI
  by_cases h : (x.u : Int) < (y.u : Int)
  · rw [if_pos h, decide_eq_true (show x.u < y.u by omega)]; rfl
  · rw [if_neg h, decide_eq_false (show ¬ x.u < y.u by omega)]
    split <;> rfl
theorem swoM : SWO (ltOf cmpM) where
  irrefl x := by rw [ltM]; exact decide_eq_false (Nat.lt_irrefl _)
  trans x y z h1 h2 := by rw [ltM] at *; have := of_decide_eq_true h1; have := of_decide_eq_true h2; exact decide_eq_true (by omega)
  ntrans x y z h1 h2 := by rw [ltM] at *; have := of_decide_eq_false h1; have := of_decide_eq_false h2; exact decide_eq_false (by omega)
theorem cmpM_any (x y : Lm) (W : World) : Calls Tryz.prog 61 #[.agg #[.int .i64 x.u, .int .i64 x.s, .int .i64 x.g], .agg #[.int .i64 y.u, .int .i64 y.s, .int .i64 y.g]] W fun e w' => e = .returned (.int .i64 (cmpM x y)) ∧ ∃ q os', w' = grow (W.drewN q) os' := by
  have HC := Lib.hid (fun W => compareInt_any (x.u : Int) (y.u : Int) W)
  obtain ⟨x1, x2, x3⟩ := x
  obtain ⟨y1, y2, y3⟩ := y
  unfold cmpM
  simp only at *
  generalize cmpI (x1 : Int) (y1 : Int) = r at *
  go_enter Tryz.func61, Tryz.ntmps61
  go_wp2_with (go_at_call 62; refine (HC.out _).mono ?_; rintro e w1 ⟨rfl, rfl⟩)
  go_ret
  exact ⟨rfl, 0, _, by rw [alloc_eq_grow, alloc_eq_grow, grow_grow]; rfl⟩

set_option maxRecDepth 100000 in
theorem sortM_any (base : Nat) (v : Value) (l : List Lm) (w : World) (h : w.ownsRow base 100 3 v l.length (rowC l)) (hl : l.length ≤ 2000000) (hbase : base ≤ w.heap.size) :
    Calls Tryz.prog 60 #[v, .func (.func 61) #[] #[]] w
      (fun e w' => e = .returned (.tuple #[]) ∧ ∃ l', l'.Perm l ∧ RiseS l' ∧ w'.ownsRow base 100 3 v l'.length (rowC l') ∧ Below base w w') := by
  rcases Nat.eq_zero_or_pos l.length with h0 | hpos
  · have : l = [] := List.eq_nil_of_length_eq_zero h0
    subst this
    have hv : ∃ p cap, v = .slice p 0 cap := by
      rcases h.2 with ⟨h1, _⟩ | ⟨g, cap, cur, h1, _⟩
      · exact ⟨_, _, h1⟩
      · exact ⟨_, _, h1⟩
    obtain ⟨p, cap, rfl⟩ := hv
    refine (AnyF.slices_SortFunc_none Tryz.sort6 p cap _ w).mono ?_
    rintro e w' ⟨rfl, rfl⟩
    exact ⟨rfl, [], List.Perm.refl _, List.Pairwise.nil, h, Below.refl _ _⟩
  · obtain ⟨g, cap, rfl, hbg, hgl, hncap, hcm, hat, hfr⟩ := own3_lies h hpos
    have eg : ∀ args w, (callFunc 61 args).run Tryz.prog w = .ok (.enter 61 args) w := enters_of Tryz.func61 (by kernel_rfl) rfl
    have hH : HoldsK mbCells 3 w g 0 l.toArray := by
      unfold HoldsK
      rw [flat_mb]
      intro j hj
      have hj' : j < l.length * 3 := by simpa [rowC_length] using hj
      rw [Nat.zero_add]
      refine ⟨?_, hfr j⟩
      rcases h.2 with ⟨h0, _⟩ | ⟨g', cap', cur, hv, _, hh, _, _, hs, ht⟩
      · cases h0
      · injection hv with e1 e2 e3
        injection e1 with e1
        injection e1 with e1
        subst e1 e3
        rw [cell_of_row w g j _ _ (0, 0) hh, getElem!_pos _ j hj, ← Array.getElem?_toList]
        have : (cur.toList.take (l.length * 3))[j]? = (rowC l)[j]? := by rw [ht]
        rw [List.getElem?_take, if_pos hj'] at this
        rw [this]
        simp [List.getElem?_eq_getElem (show j < (rowC l).length by rw [rowC_length]; exact hj')]
    have hcon := AnyQ.slices_SortFunc Tryz.sort6 3 Tryz.isAgg100 Tryz.sizeOf100 mbCells (fun _ => rfl) (fun x v hv => by simp [mbCells] at hv; rcases hv with rfl | rfl | rfl <;> rfl) cmpM swoM 61 #[] g 0 cap l.toArray w eg
      (fun m os dk hs x y => cmpM_any x y _) hH hgl (by simp; omega)
    have hsz : l.toArray.size = l.length := by simp
    rw [hsz] at hcon
    refine Calls.mono hcon ?_
    rintro e w' ⟨rfl, d', n, os, hp, hs, rfl⟩
    obtain ⟨p1, p2, p3⟩ := hp
    have hlen : d'.toList.length = l.length := by rw [Array.length_toList, p1, hsz]
    have hper : d'.toList.Perm l := by
      have e1 : (d'.extract 0 l.length).toList = d'.toList := by rw [← hlen]; simp
      have e2 : (l.toArray.extract 0 l.length).toList = l := by simp
      rw [e1, e2] at p3
      exact p3
    have hsor : RiseS d'.toList := by
      unfold RiseS
      rw [List.pairwise_iff_getElem]
      intro i j hi hj hij
      have := hs i j (Nat.zero_le _) hij (by omega)
      rw [ltM] at this
      have e1 : d'[i]! = d'.toList[i] := by rw [getElem!_pos d' i (by rw [← Array.length_toList]; exact hi)]; simp
      have e2 : d'[j]! = d'.toList[j] := by rw [getElem!_pos d' j (by rw [← Array.length_toList]; exact hj)]; simp
      rw [e1, e2] at this
      have h2 := of_decide_eq_false (by simpa using this : decide (d'.toList[j].u < d'.toList[i].u) = false)
      omega
    refine ⟨rfl, d'.toList, hper, hsor, ?_, ?_⟩
    · obtain ⟨h1, h2⟩ := h
      rcases h2 with ⟨h2, _⟩ | ⟨g', cap', cur, hv, hg, hh, hn, hc, hs', ht⟩
      · cases h2
      · injection hv with e1 e2 e3
        injection e1 with e1
        injection e1 with e1
        subst e1 e3
        have hF : (flatK mbCells 3 d') = (rowC d'.toList).toArray := by
          have := flat_mb d'.toList
          simpa using this
        rw [hlen]
        refine ⟨by rw [rowC_length, hlen], .inr ⟨g, cap, _, rfl, hbg, heap_put hh, hn, hc, by simp [putCells, hs'], ?_⟩⟩
        rw [hF]
        have hl2 : (rowC d'.toList).length = l.length * 3 := by rw [rowC_length, hlen]
        rw [← hl2]
        exact take_put cur _ (by rw [hl2, hs']; omega)
    · exact below_put hbg hbase

def NewPost (W : World) (l : List Lm) (e : Ending) (w' : World) : Prop := ∃ rb, e = .returned (.tuple #[.pointer (some ⟨rb, 0, none⟩), .int .i64 0]) ∧ Held W.heap.size w' rb l ∧ Below W.heap.size W w'
theorem new_bad (f : Int) (v : Value) (ps : List Sp) (W : World) (h : SpansAt W v ps) (hi : IntsS ps) (he : newE f ps ≠ 0) :
    Calls Tryz.prog 31 #[.int .i64 f, v] W (RetB (.tuple #[.pointer none, .int .i64 (newE f ps)]) W) := by
  have HCH := Lib.hid (check_any f v ps W h hi)
  by_cases h1 : chkT f ps = 0
  · obtain ⟨⟨_, k1⟩, k2⟩ := chk_right h1
    have htot := totT_right k1 k2 h.len
    have h2 : f < sumP ps := by
      by_cases h2 : f < sumP ps
      · exact h2
      · exact absurd (newE_ok h1 h2) he
    rw [newE_full h1 h2]
    rw [h1] at HCH
    have HT := Lib.hid (fun (w : World) (hb : Below W.heap.size W w) => total_any v ps w (h.keep hb) hi)
    rw [htot] at HT
    have q1 : decide (f < sumP ps) = true := decide_eq_true h2
    obtain ⟨S, hS⟩ : ∃ S, sumP ps = S := ⟨_, rfl⟩
    have hv1 : sumV (some S) = S := rfl
    have hv2 : sumE (some S) = 0 := rfl
    rw [hS] at HT q1 h2
    rw [hv1, hv2] at HT
    clear h hi he h1 htot hS k1 k2 hv1 hv2
    go_enter Tryz.func31, Tryz.ntmps31
    go_wp2_with fail
    refine HCH.out.mono ?_
    rintro e w1 ⟨rfl, hb⟩
    have HB := Lib.hid hb
    clear hb
    go_wp2_with fail
    refine (HT.out _ HB.out).mono ?_
    rintro e w2 ⟨rfl, hb⟩
    have HB2 := Lib.hid (HB.out.trans (hb.mono HB.out.size))
    clear hb
    go_wp2
    go_ret2
    exact ⟨rfl, HB2.out⟩
  · rw [newE_chk h1]
    obtain ⟨E, hE⟩ : ∃ E, chkT f ps = E := ⟨_, rfl⟩
    rw [hE] at HCH h1 ⊢
    have q1 : (E != 0) = true := by simpa using h1
    clear h hi he h1 hE
    go_enter Tryz.func31, Tryz.ntmps31
    go_wp2_with fail
    refine HCH.out.mono ?_
    rintro e w1 ⟨rfl, hb⟩
    have HB := Lib.hid hb
    clear hb
    go_wp2
    go_ret2
    exact ⟨rfl, HB.out⟩

set_option maxRecDepth 100000 in
set_option maxHeartbeats 2000000 in
theorem new_ok (f : Int) (v : Value) (ps : List Sp) (W : World) (h : SpansAt W v ps) (hi : IntsS ps) (he : newE f ps = 0) :
    Calls Tryz.prog 31 #[.int .i64 f, v] W (NewPost W (newT ps)) := by
  have HCH := Lib.hid (check_any f v ps W h hi)
  obtain ⟨h1, h2⟩ := newE_zero he
  obtain ⟨⟨_, k1⟩, k2⟩ := chk_right h1
  have htot := totT_right k1 k2 h.len
  rw [h1] at HCH
  have HT := Lib.hid (fun (w : World) (hb : Below W.heap.size W w) => total_any v ps w (h.keep hb) hi)
  rw [htot] at HT
  have hn1 := (sumP_in k2.share).1
  have q1 : decide (f < sumP ps) = false := decide_eq_false (by omega)
  have q2 : sumP ps ≤ f := h2
  obtain ⟨S, hS⟩ : ∃ S, sumP ps = S := ⟨_, rfl⟩
  have hv1 : sumV (some S) = S := rfl
  have hv2 : sumE (some S) = 0 := rfl
  rw [hS] at HT q1 q2 hn1
  rw [hv1, hv2] at HT
  have HRI := Lib.hid k2
  have HH := Lib.hid h
  obtain ⟨A, c, hv, _, _, _, _⟩ := h
  subst hv
  obtain ⟨n, hn⟩ : ∃ n, ps.length = n := ⟨_, rfl⟩
  have HN := Lib.hid hn
  rw [hn] at HCH HT HH hn1 ⊢
  have hn64 : n ≤ 64 := by omega
  have hn0 : (0 : Int) ≤ (n : Int) := by omega
  have HMK := Lib.hid (fun (W : World) => mk_members W n (by omega))
  clear h2 h1 he hi htot hS k1 k2 hv1 hv2 hn hn1
  go_enter Tryz.func31, Tryz.ntmps31
  go_wp2_with fail
  refine HCH.out.mono ?_
  rintro e w1 ⟨rfl, hb⟩
  have HB := Lib.hid hb
  clear hb
  go_wp2_with fail
  refine (HT.out _ HB.out).mono ?_
  rintro e w2 ⟨rfl, hb⟩
  have HB2 := Lib.hid (HB.out.trans (hb.mono HB.out.size))
  have hmk := HMK.out w2
  obtain ⟨b, hbs⟩ : ∃ b, w2.heap.size = b := ⟨_, rfl⟩
  obtain ⟨w3, hw3⟩ : ∃ w3, w2.alloc (.cells (rowC (List.replicate n (⟨0, 0, 0⟩ : Lm))).toArray 100) = w3 := ⟨_, rfl⟩
  have hb3 : Below w2.heap.size w2 w3 := by rw [← hw3]; exact (Below.refl _ w2).alloc (Nat.le_refl _) _
  have HB3 := Lib.hid (HB2.out.trans (hb3.mono HB2.out.size))
  have HO3 : Hid (w3.ownsRow W.heap.size 100 3 (.slice (some ⟨b, 0, none⟩) n n) n (rowC (List.replicate n (⟨0, 0, 0⟩ : Lm)))) := by
    rw [← hw3, ← hbs]
    exact own_madeM w2 _ _ 3 n _ (by rw [rowC_length, List.length_replicate]) HB2.out.size (by omega)
  have HBS : Hid (W.heap.size ≤ b) := by rw [← hbs]; exact HB2.out.size
  rw [hw3, hbs] at hmk
  clear hb hb3 hw3 hbs
  go_wp2_with fail
  go_loopg [10, 11, 31] n (fun gg _ _ s wr => ∃ (k : Nat) (D : List Lm), k ≤ n ∧ gg = n - k ∧ s = .int .i64 k ∧ Below W.heap.size W wr ∧ D.length = n ∧ wr.ownsRow W.heap.size 100 3 (.slice (some ⟨b, 0, none⟩) n n) n (rowC D) ∧ ∀ (j : Nat), j < k → D[j]? = (ps.map mkL)[j]?)
  case atStart => exact ⟨0, _, Nat.zero_le _, by omega, rfl, HB3.out, List.length_replicate, HO3.out, fun j hj => absurd hj (Nat.not_lt_zero _)⟩
  case round =>
    obtain ⟨k, D, hk, hg, rfl, hbw, hD, hown, hsame⟩ := hrel
    have HBW := Lib.hid hbw
    have HG := Lib.hid hg
    have HD := Lib.hid hD
    have HO := Lib.hid hown
    have HS := Lib.hid hsame
    clear hbw hg hD hown hsame hmk
    by_cases hlt : k < n
    · have hltz : (k : Int) < (n : Int) := by omega
      have hk0 : (0 : Int) ≤ (k : Int) := by omega
      obtain ⟨p, hp⟩ := ex_at (xs := ps) (k := k) (by rw [HN.out]; exact hlt)
      have HM : Hid ((ps.map mkL)[k]? = some (mkL p)) := by show _ = _; rw [List.getElem?_map, hp]; rfl
      have hu := (HRI.out.unit p (List.mem_of_getElem? hp)).1
      have hs := (HRI.out.share p (List.mem_of_getElem? hp)).1
      obtain ⟨A', c', hv', _, _, _, hat⟩ := HH.out.keep HBW.out
      injection hv' with e1 e2 e3; clear e2 e3
      subst e1
      obtain ⟨g, off, hA, hgl, hcells⟩ := hat (by rw [HN.out]; omega)
      subst hA
      obtain ⟨a0, a1⟩ := hcells k p hp
      obtain ⟨p1, p2⟩ := p
      simp only at a0 a1 hu hs HM
      obtain ⟨x1, hx1⟩ : ∃ x : Nat, p1 = (x : Int) := ⟨p1.toNat, by omega⟩
      obtain ⟨x2, hx2⟩ : ∃ x : Nat, p2 = (x : Int) := ⟨p2.toNat, by omega⟩
      subst hx1 hx2
      have HM2 : Hid ((ps.map mkL)[k]? = some ⟨x1, x2, 0⟩) := HM.out
      obtain ⟨w4, hw4⟩ : ∃ w4, wr.alloc (.cells #[.int .i64 x1, .int .i64 x2] 52) = w4 := ⟨_, rfl⟩
      obtain ⟨N, hN⟩ : ∃ N, wr.heap.size = N := ⟨_, rfl⟩
      have hb2 : Below wr.heap.size wr w4 := by rw [← hw4]; exact (Below.refl _ wr).alloc (Nat.le_refl _) _
      have n0 : w4.cell? ⟨N, 0, none⟩ = some (.int .i64 x1) := by rw [← hw4, ← hN]; exact World.cell?_alloc_new (w := wr) _ _ 0
      have n1 : w4.cell? ⟨N, 1, none⟩ = some (.int .i64 x2) := by rw [← hw4, ← hN]; exact World.cell?_alloc_new (w := wr) _ _ 1
      have HO2 := Lib.hid (own_below5 HO.out hb2)
      have HB4 := Lib.hid (HBW.out.trans (hb2.mono HBW.out.size))
      obtain ⟨q, hq⟩ := ex_at (xs := D) (k := k) (by rw [HD.out]; exact hlt)
      have hown' : w4.ownsRow W.heap.size 100 3 (.slice (some ⟨b, 0, none⟩) D.length n) D.length (rowC D) := by rw [HD.out]; exact HO2.out
      obtain ⟨g', cap', hA', _, _, _, _, hat2, hfr⟩ := own3_lies hown' (by rw [HD.out]; omega)
      injection hA' with hA' hA1 hA2; clear hA1 hA2
      injection hA' with hA'
      injection hA' with hA'
      subst hA'
      obtain ⟨t0, t1, t2⟩ := hat2 k q hq
      have f0 := hfr (k * 3)
      have f1 := hfr (k * 3 + 1)
      have f2 := hfr (k * 3 + 2)
      have HO5 : Hid ((((w4.setCell ⟨b, k * 3, none⟩ (.int .i64 x1)).setCell ⟨b, k * 3 + 1, none⟩ (.int .i64 x2)).setCell ⟨b, k * 3 + 2, none⟩ (.int .i64 0)).ownsRow W.heap.size 100 3 (.slice (some ⟨b, 0, none⟩) n n) n (rowC (D.set k ⟨x1, x2, 0⟩))) := by
        rw [← rowC_set D k q ⟨x1, x2, 0⟩ hq]
        exact ownK_set (ownK_set (ownK_set HO2.out _) _) _
      clear hb2 hp hat hat2 hfr hq hown' hcells HM
      go_wp2_with fail
      go_roundg (n - (k + 1))
      case measure => have := HG.out; omega
      case rel =>
        have hbb : W.heap.size ≤ b := HBS.out
        refine ⟨k + 1, _, Nat.succ_le_of_lt hlt, rfl, by go_num, ?_, ?_, HO5.out, same_till HS.out HM2.out (by rw [HD.out]; exact hlt)⟩
        · exact ((HB4.out.setCell (p := ⟨b, k * 3, none⟩) hbb _).setCell (p := ⟨b, k * 3 + 1, none⟩) hbb _).setCell (p := ⟨b, k * 3 + 2, none⟩) hbb _
        · rw [List.length_set]; exact HD.out
    · have hltz : ¬ (k : Int) < (n : Int) := by omega
      have hkn : k = n := by omega
      have hpl : (ps.map mkL).length = n := by rw [List.length_map]; exact HN.out
      have hDE : D = ps.map mkL := same_end (fun j hj => HS.out j (by omega)) (by rw [HD.out, hpl])
      have HSO : Hid (Calls Tryz.prog 60 #[.slice (some ⟨b, 0, none⟩) n n, .func (.func 61) #[] #[]] wr
          (fun e w' => e = .returned (.tuple #[]) ∧ ∃ l', l'.Perm (ps.map mkL) ∧ RiseS l' ∧ w'.ownsRow W.heap.size 100 3 (.slice (some ⟨b, 0, none⟩) n n) l'.length (rowC l') ∧ Below W.heap.size wr w')) :=
        sortM_any W.heap.size _ (ps.map mkL) wr (by rw [hpl, ← hDE]; exact HO.out) (by omega) HBW.out.size
      clear hDE hpl
      go_wp2_with fail
      refine HSO.out.mono ?_
      rintro e w5 ⟨rfl, l', q1, q2, q3, q4⟩
      have hl' : l' = newT ps := sorted_new HRI.out q2 q1
      have HB5 := Lib.hid (HBW.out.trans q4)
      rw [hl'] at q3
      have HO5 := Lib.hid q3
      have HEND : Hid (∀ e w6, w6 = w5.alloc (.cells #[.slice (some ⟨b, 0, none⟩) n n] 105) → e = .returned (.tuple #[.pointer (some ⟨w5.heap.size, 0, none⟩), .int .i64 0]) → NewPost W (newT ps) e w6) := by
        rintro e w6 rfl rfl
        have hbel : Below w5.heap.size w5 (w5.alloc (.cells #[.slice (some ⟨b, 0, none⟩) n n] 105)) := (Below.refl _ w5).alloc (Nat.le_refl _) _
        refine ⟨w5.heap.size, rfl, ⟨.slice (some ⟨b, 0, none⟩) n n, ⟨heap_alloc_new w5 _, own_mono5 (own_below5 HO5.out hbel) (Nat.zero_le _), ?_⟩, ?_⟩, HB5.out.trans (hbel.mono HB5.out.size)⟩
        · intro e
          have := own_lt HO5.out (k := w5.heap.size) e
          omega
        · rintro x (rfl | hx)
          · exact HB5.out.size
          · cases hx
            exact HBS.out
      clear q1 q2 q3 q4 hl'
      go_wp2
      go_ret2
      exact HEND.out _ _ rfl rfl
end Go.Proofs.YtpfpojehcjmfnaaGreat
