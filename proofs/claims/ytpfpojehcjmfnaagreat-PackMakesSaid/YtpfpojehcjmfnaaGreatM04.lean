/-
  slices.Insert of one place into a row of the caller's own.
  Conditions: the row is of the caller's own; the one that is put lies in another block.
-/
import Derived.Test.YtpfpojehcjmfnaaGreatM03
import Derived.Test.YtpfpojehcjmfnaaGreatM01
import Derived.Shelf.RegionOpenPlain
import Derived.Laws.MakeOwn
import Derived.Laws.CopyRow
import Derived.Shelf.Spec.SlicesInsertGrow

/-
  All is counted: what is free and what is shared out are the frames of all cores; cores of a right plan.
  Conditions: the plan is right.
-/
set_option linter.unusedVariables false
namespace Go.Proofs.YtpfpojehcjmfnaaGreat
open Go.RowKit

/-- A sum over the first k cores that are there. -/
def overC (m : Nat) (g : Nat → Int) : Nat → Int
  | 0 => 0
  | k + 1 => overC m g k + if m.testBit k = true then g k else 0
theorem overC_add (m : Nat) (g h : Nat → Int) : ∀ k : Nat, overC m (fun c => g c + h c) k = overC m g k + overC m h k
  | 0 => rfl
  | k + 1 => by
    rw [overC, overC, overC, overC_add m g h k]
    cases m.testBit k <;> simp <;> omega
theorem overC_congr {m : Nat} {g h : Nat → Int} : ∀ {k : Nat}, (∀ c, c < k → m.testBit c = true → g c = h c) → overC m g k = overC m h k
  | 0, _ => rfl
  | k + 1, e => by
    rw [overC, overC, overC_congr fun c hc hb => e c (by omega) hb]
    by_cases hb : m.testBit k = true
    · rw [if_pos hb, if_pos hb, e k (by omega) hb]
    · rw [if_neg hb, if_neg hb]
theorem overC_zero (m : Nat) : ∀ k : Nat, overC m (fun _ => 0) k = 0
  | 0 => rfl
  | k + 1 => by rw [overC, overC_zero m k]; simp
theorem overC_const (m : Nat) (f : Int) : ∀ k : Nat, overC m (fun _ => f) k = f * (cntT m k : Int)
  | 0 => by
    show (0 : Int) = f * ((0 : Nat) : Int)
    simp
  | k + 1 => by
    rw [overC, overC_const m f k, cntT_succ]
    cases m.testBit k
    · simp
    · simp [Int.mul_add]
theorem overC_one {m : Nat} {c0 : Nat} {s : Int} (hb : m.testBit c0 = true) : ∀ {k : Nat}, c0 < k → overC m (fun c => if (c0 : Int) = (c : Int) then s else 0) k = s
  | 0, h => absurd h (Nat.not_lt_zero _)
  | k + 1, h => by
    rw [overC]
    by_cases e : k = c0
    · subst e
      rw [if_pos hb, if_pos rfl, overC_congr (h := fun _ => 0) fun c hc _ => if_neg (by omega), overC_zero]
      omega
    · rw [if_neg (c := (c0 : Int) = (k : Int)) (by omega), overC_one hb (by omega)]
      simp

/-- A sum's first k, of ints that are counts. -/
theorem sumTo_cast_add (f g : Nat → Nat) (n : Nat) : ((sumTo (fun i => f i + g i) n : Nat) : Int) = (sumTo f n : Int) + (sumTo g n : Int) := by rw [sumTo_add]; omega
theorem nOn_cons (y : Pc) (q : List Pc) (c : Int) (t : Nat) : nOn (y :: q) c t = (onB c t y).toNat + nOn q c t := by
  rw [show y :: q = [y] ++ q from rfl, nOn_append]
  rw [show [y] = [] ++ [y] from rfl, nOn_snoc, nOn_nil, Nat.zero_add]
theorem nAny_cons (y : Pc) (q : List Pc) (t : Nat) : nAny (y :: q) t = (y.t.testBit t).toNat + nAny q t := by
  rw [show y :: q = [y] ++ q from rfl, nAny_append]
  rw [show [y] = [] ++ [y] from rfl, nAny_snoc, show nAny [] t = 0 from rfl, Nat.zero_add]

theorem sum_none (c : Int) : sumTo (nOn [] c) 64 = 0 := sumTo_zero fun _ _ => rfl
theorem over_pieces {m : Nat} : ∀ (q : List Pc), (∀ y ∈ q, hasC m y.c = true) → overC m (fun c => (sumTo (nOn q (c : Int)) 64 : Int)) 16 = (sumTo (nAny q) 64 : Int)
  | [], _ => by
    have e : ∀ c : Int, sumTo (nOn [] c) 64 = 0 := fun c => sumTo_zero fun _ _ => rfl
    have e2 : sumTo (nAny []) 64 = 0 := sumTo_zero fun _ _ => rfl
    rw [overC_congr (h := fun _ => 0) fun c _ _ => by simp [e], overC_zero, e2]
    rfl
  | y :: q, h => by
    have hy := h y (by simp)
    obtain ⟨r0, r1⟩ := hasC_range hy
    obtain ⟨c0, hc0⟩ := Int.eq_ofNat_of_zero_le r0
    have hc16 : c0 < 16 := by omega
    have hb : m.testBit c0 = true := by rw [hc0, hasC_nat hc16] at hy; exact hy
    have e1 : ∀ c : Nat, (sumTo (nOn (y :: q) (c : Int)) 64 : Int) = (if (c0 : Int) = (c : Int) then (sumTo (fun t => (y.t.testBit t).toNat) 64 : Int) else 0) + (sumTo (nOn q (c : Int)) 64 : Int) := fun c => by
      rw [sumTo_congr (g := fun t => (onB (c : Int) t y).toNat + nOn q (c : Int) t) fun t _ => nOn_cons y q _ t, sumTo_cast_add]
      congr 1
      by_cases e : (c0 : Int) = (c : Int)
      · rw [if_pos e]
        congr 1
        refine sumTo_congr fun t _ => ?_
        unfold onB
        rw [hc0, decide_eq_true e, Bool.true_and]
      · rw [if_neg e, sumTo_zero fun t _ => by
          unfold onB
          rw [hc0, decide_eq_false e, Bool.false_and]
          rfl]
        rfl
    rw [overC_congr fun c _ _ => e1 c, overC_add, overC_one hb hc16, over_pieces q fun z hz => h z (by simp [hz]),
      sumTo_congr (f := nAny (y :: q)) (g := fun t => (y.t.testBit t).toNat + nAny q t) fun t _ => nAny_cons y q t, sumTo_cast_add]
theorem wholesT_cons (x : Pl) (l : List Pl) (c : Int) : sumS (wholesT (x :: l) c) = (if wholeB c x = true then x.s else 0) + sumS (wholesT l c) := by
  unfold wholesT
  rw [List.filter_cons]
  by_cases h : wholeB c x = true
  · rw [if_pos h, if_pos h, List.map_cons, sumS]
  · rw [if_neg h, if_neg h]
    omega
/-- All that lies on a core. -/
def layN (l : List Pl) (c : Int) : Int := (sumTo (nOn (pcsOf l) c) 64 : Int) + sumS (wholesT l c)
theorem over_lay {f : Int} {m : Nat} : ∀ (l : List Pl), (∀ x ∈ l, PlaceOk f m x) → overC m (fun c => layN l (c : Int)) 16 = sumS (wantsT l)
  | [], _ => by
    rw [overC_congr (h := fun _ => 0) fun c _ _ => by
      show ((sumTo (nOn [] (c : Int)) 64 : Nat) : Int) + 0 = 0
      rw [sum_none]
      rfl, overC_zero]
    rfl
  | x :: l, h => by
    have hx := h x (by simp)
    have e : ∀ c : Nat, layN (x :: l) (c : Int) = ((sumTo (nOn x.ps (c : Int)) 64 : Int) + (if wholeB (c : Int) x = true then x.s else 0)) + layN l (c : Int) := fun c => by
      unfold layN
      rw [pcsOf_cons, wholesT_cons, sumTo_congr (f := nOn (x.ps ++ pcsOf l) (c : Int)) (g := fun t => nOn x.ps (c : Int) t + nOn (pcsOf l) (c : Int) t) fun t _ => nOn_append _ _ _ _, sumTo_cast_add]
      omega
    have ew : wantsT (x :: l) = (x.u, x.s) :: wantsT l := rfl
    rw [overC_congr fun c _ _ => e c, overC_add, over_lay l fun z hz => h z (by simp [hz]), ew, sumS]
    congr 1
    rw [overC_add]
    by_cases hp : x.ps = []
    · have hh := hx.whole hp
      obtain ⟨r0, r1⟩ := hasC_range hh
      obtain ⟨c0, hc0⟩ := Int.eq_ofNat_of_zero_le r0
      have hc16 : c0 < 16 := by omega
      have hb : m.testBit c0 = true := by rw [hc0, hasC_nat hc16] at hh; exact hh
      rw [overC_congr (h := fun _ => 0) (g := fun c => (sumTo (nOn x.ps (c : Int)) 64 : Int)) fun c _ _ => by
        show (sumTo (nOn x.ps (c : Int)) 64 : Int) = 0
        rw [hp, sum_none]
        rfl, overC_zero, Int.zero_add,
        overC_congr (h := fun c => if (c0 : Int) = (c : Int) then x.s else 0) fun c _ _ => ?_, overC_one hb hc16]
      have e1 : wholeB (c : Int) x = decide ((c0 : Int) = (c : Int)) := by
        unfold wholeB
        rw [hp, hc0]
        simp
      rw [e1]
      by_cases h1 : (c0 : Int) = (c : Int)
      · rw [decide_eq_true h1, if_pos rfl, if_pos h1]
      · rw [decide_eq_false h1, if_neg (by decide), if_neg h1]
    · have hs := hx.split hp
      rw [over_pieces x.ps (rise_has hs.rise), overC_congr (h := fun _ => 0) fun c _ _ => ?_, overC_zero, Int.add_zero]
      · exact hs.all
      · have : wholeB (c : Int) x = false := by
          unfold wholeB
          rw [decide_eq_false (fun h0 => hp (List.eq_nil_of_length_eq_zero h0)), Bool.false_and]
        rw [this]
        rfl
theorem free_over (f : Int) (m : Nat) (l : List Pl) : ∀ k : Nat, k ≤ 16 → freeT f m l k = overC m (fun c => f - loadN l (c : Int)) k
  | 0, _ => rfl
  | k + 1, h => by
    rw [freeT, overC, free_over f m l k (by omega)]
    congr 1
    unfold roomN
    rw [hasC_nat (by omega)]
/-- What is free, and what is shared out, are the frames of all cores. -/
theorem Right.all {f : Int} {m : Nat} {l : List Pl} (h : Right f m l) : freeT f m l 16 + sumS (wantsT l) = f * (coresN m : Int) := by
  have h1 : overC m (fun c => loadN l (c : Int)) 16 = sumS (wantsT l) := by
    rw [← over_lay l h.place]
    refine overC_congr fun c hc _ => ?_
    show loadN l (c : Int) = layN l (c : Int)
    unfold loadN layN
    rw [cnt_win (h.apart c hc)]
  have h2 := overC_add m (fun c => f - loadN l (c : Int)) (fun c => loadN l (c : Int)) 16
  rw [h1, ← free_over f m l 16 (Nat.le_refl _), overC_congr (h := fun _ => f) fun c _ _ => by omega, overC_const] at h2
  unfold coresN
  omega
theorem ticks_top {m : Nat} (h : m < 65536) : ticksI m 64 = ticksI m 16 := by
  have key : ∀ d : Nat, ticksI m (16 + d) = ticksI m 16 := by
    intro d
    induction d with
    | zero => rfl
    | succ d ih => rw [show 16 + (d + 1) = (16 + d) + 1 by omega, ticksI_no (bit16 h (by omega)), ih]
  exact key 48
end Go.Proofs.YtpfpojehcjmfnaaGreat

/-
  A unit's place: slices.IndexFunc, slices.Clone of pieces, clone, Find of both.
  Conditions: the slice reads as places.
-/
set_option linter.unusedVariables false
namespace Go.Proofs.YtpfpojehcjmfnaaGreat
open Go.RowKit

def findU (l : List Pl) (u : Int) : Option Pl := l.find? fun x => decide (x.u = u)
def zeroPl : Pl := ⟨0, 0, 0, []⟩
theorem findU_miss {l : List Pl} {k : Nat} {x : Pl} {u : Int} (h : findU (l.take k) u = none) (hx : l[k]? = some x) (hu : x.u ≠ u) : findU (l.take (k + 1)) u = none := by
  unfold findU at h ⊢
  rw [List.take_add_one, hx, Option.toList_some, List.find?_append, h]
  simp [hu]
theorem findU_hit {l : List Pl} {k : Nat} {x : Pl} {u : Int} (h : findU (l.take k) u = none) (hx : l[k]? = some x) (hu : x.u = u) : findU l u = some x := by
  unfold findU at h ⊢
  have e : l = l.take k ++ x :: l.drop (k + 1) := by
    obtain ⟨hk, hx'⟩ := List.getElem?_eq_some_iff.1 hx
    rw [← hx', ← List.drop_eq_getElem_cons hk, List.take_append_drop]
  rw [e, List.find?_append, h]
  simp [hu]
/-- Where a unit's place is. -/
def RetIdx (l : List Pl) (u : Int) (w : World) (e : Ending) (w' : World) : Prop :=
  ∃ r : Int, e = .returned (.int .i64 r) ∧ ((r = -1 ∧ findU l u = none) ∨ ∃ (k : Nat) (x : Pl), r = k ∧ l[k]? = some x ∧ findU l u = some x) ∧ Below w.heap.size w w'

theorem findPred_any (u : Int) (B : Nat) (v : Value) (x : Pl) (W : World) (hB : B < W.heap.size) (hc : W.cell? ⟨B, 0, none⟩ = some (.int .i64 u)) :
    Calls Tryz.prog 165 #[plA v x, .pointer (some ⟨B, 0, none⟩)] W (RetB (.bool (decide (x.u = u))) W) := by
  obtain ⟨w1, P, hw1, hP, hPl, hb1, hbox⟩ := box_any W #[.int .i64 x.u, .int .i64 x.s, .int .i64 x.c, v] 48
  have HB1 := Lib.hid hb1
  obtain ⟨r0, r1, r2, r3⟩ := four_heads hbox
  have hc1 : w1.cell? ⟨B, 0, none⟩ = some (.int .i64 u) := (hb1.cell (p := ⟨B, 0, none⟩) hB).trans hc
  have hd : (x.u == u) = decide (x.u = u) := by by_cases h : x.u = u <;> simp [h]
  generalize decide (x.u = u) = r at *
  clear hb1 hbox hc
  unfold plA
  go_enter Tryz.func165, Tryz.ntmps165
  go_wp2
  all_goals go_ret
  all_goals exact ⟨by simp_all, HB1.out⟩

set_option maxRecDepth 100000 in
set_option maxHeartbeats 2000000 in
theorem indexPl_any (v : Value) (l : List Pl) (u : Int) (C : Nat) (w : World) (h : PlsAt w v l) (hC : C < w.heap.size) (hc : w.cell? ⟨C, 0, none⟩ = some (.int .i64 u)) :
    Calls Tryz.prog 164 #[v, .func (.func 165) #[] #[.pointer (some ⟨C, 0, none⟩)]] w (RetIdx l u w) := by
  have eg : ∀ args w, (callFunc 165 args).run Tryz.prog w = .ok (.enter 165 args) w := enters_of Tryz.func165 (by kernel_rfl) rfl
  have HL := Lib.hid h
  have HC := Lib.hid hc
  have HPR := Lib.hid (fun v x W hB hc => findPred_any u C v x W hB hc)
  unfold plA at HPR
  obtain ⟨A, c, rfl, hc1, hc2⟩ := h.form
  obtain ⟨n, hn⟩ : ∃ n, l.length = n := ⟨_, rfl⟩
  rw [hn] at HL hc1 ⊢
  have HN := Lib.hid hn
  have hbn : n ≤ 9223372036854775807 := by omega
  clear h hn hc
  go_enter Tryz.func164, Tryz.ntmps164
  go_wp2_with fail
  go_loopg [5, 8] n (fun gg _ s8 wr => ∃ k : Nat, k ≤ n ∧ gg = n - k ∧ s8 = .int .i64 k ∧ Hid (findU (l.take k) u = none) ∧ Below w.heap.size w wr)
  case atStart => exact ⟨0, Nat.zero_le _, by omega, rfl, rfl, Below.refl _ w⟩
  case round =>
    obtain ⟨k, hk, hg, rfl, HF, hbw⟩ := hrel
    have HG := Lib.hid hg
    have HB := Lib.hid hbw
    clear hg hbw
    by_cases hlt : k < n
    · have hltz : (k : Int) < (n : Int) := by omega
      have hk0 : (0 : Int) ≤ (k : Int) := by omega
      obtain ⟨x, hx⟩ := exP_at (xs := l) (k := k) (by rw [HN.out]; exact hlt)
      obtain ⟨b, off, B, d, hA, hbl, _, ⟨c0, c1, c2, c3⟩, _⟩ := (HL.out.keep HB.out).at_ hx
      subst hA
      simp only at c0 c1 c2 c3
      have HCL := Lib.hid (HPR.out (.slice B x.ps.length d) x wr (Nat.lt_of_lt_of_le hC HB.out.size) ((HB.out.cell (p := ⟨C, 0, none⟩) hC).trans HC.out))
      have HX := Lib.hid hx
      clear hx
      by_cases hu : x.u = u
      · rw [decide_eq_true hu] at HCL
        have HE := Lib.hid (findU_hit HF HX.out hu)
        clear hu
        go_wp2_with (go_at_fn 165; refine HCL.out.mono ?_; rintro e w' ⟨rfl, hb'⟩)
        go_ret
        exact ⟨k, rfl, .inr ⟨k, x, rfl, HX.out, HE.out⟩, HB.out.trans (hb'.mono HB.out.size)⟩
      · rw [decide_eq_false hu] at HCL
        have HE := Lib.hid (findU_miss HF HX.out hu)
        clear hu
        go_wp2_with (go_at_fn 165; refine HCL.out.mono ?_; rintro e w' ⟨rfl, hb'⟩)
        have HB2 := Lib.hid (HB.out.trans (hb'.mono HB.out.size))
        clear hb'
        go_roundg (n - (k + 1))
        case measure => have := HG.out; omega
        case rel => exact ⟨k + 1, by omega, rfl, by go_num, HE.out, HB2.out⟩
    · have hltz : ¬ (k : Int) < (n : Int) := by omega
      have HE : Hid (findU l u = none) := by
        have h : findU (l.take k) u = none := HF
        rwa [List.take_of_length_le (by rw [HN.out]; omega)] at h
      go_wp2
      go_ret
      exact ⟨-1, rfl, .inl ⟨rfl, HE⟩, HB.out⟩

def pcsCells (ps : List Pc) : List Value := ps.flatMap pcCells
theorem pcsCells_cons (y : Pc) (ps : List Pc) : pcsCells (y :: ps) = .int .i64 y.c :: .int .u64 y.t :: pcsCells ps := by simp [pcsCells, pcCells]
theorem pcsCells_length : ∀ (ps : List Pc), (pcsCells ps).length = ps.length * 2
  | [] => rfl
  | y :: ps => by rw [pcsCells_cons]; simp [pcsCells_length ps]; omega
theorem pcsCells_get : ∀ (ps : List Pc) (j : Nat) (y : Pc), ps[j]? = some y → (pcsCells ps)[j * 2]? = some (.int .i64 y.c) ∧ (pcsCells ps)[j * 2 + 1]? = some (.int .u64 y.t)
  | [], j, y, h => by simp at h
  | z :: ps, 0, y, h => by
    simp at h
    subst h
    exact ⟨rfl, rfl⟩
  | z :: ps, j + 1, y, h => by
    have ih := pcsCells_get ps j y (by simpa using h)
    rw [pcsCells_cons, show (j + 1) * 2 = j * 2 + 1 + 1 by omega]
    simpa using ih
theorem pcsCells_one (ps : List Pc) : ∀ u ∈ pcsCells ps, u.oneCell' = true := by
  intro u hu
  obtain ⟨y, _, hy⟩ := List.mem_flatMap.1 hu
  simp [pcCells] at hy
  rcases hy with rfl | rfl <;> rfl
theorem pcsCells_of {W : World} {b off : Nat} : ∀ (ps : List Pc), (∀ (j : Nat) (y : Pc), ps[j]? = some y → PcAt W b (off + j * 2) y) → ∀ j u, (pcsCells ps)[j]? = some u → W.cell? ⟨b, off + j, none⟩ = some u := by
  intro ps hc j u h
  have hj : j < ps.length * 2 := by rw [← pcsCells_length]; exact (List.getElem?_eq_some_iff.1 h).1
  obtain ⟨i, hi⟩ : ∃ i, j = i * 2 ∨ j = i * 2 + 1 := ⟨j / 2, by omega⟩
  obtain ⟨y, hy⟩ := exP_at (xs := ps) (k := i) (by omega)
  obtain ⟨g1, g2⟩ := pcsCells_get ps i y hy
  obtain ⟨k1, k2⟩ := hc i y hy
  rcases hi with rfl | rfl
  · rw [g1] at h
    rw [k1]; exact h
  · rw [g2] at h
    rw [← Nat.add_assoc, k2]; exact h
/-- A row of a call's own reads as pieces. -/
theorem pcs_of_own {W : World} {base : Nat} {v : Value} {ps : List Pc} (h : W.ownsRow base 84 2 v ps.length (pcsCells ps)) : PcsIn (fun b => base ≤ b) W v ps := by
  obtain ⟨h1, h2⟩ := h
  rcases h2 with ⟨rfl, h0⟩ | ⟨g, cap, cur, rfl, hg, hh, hn, hc, hs, ht⟩
  · have : ps = [] := List.eq_nil_of_length_eq_zero h0
    subst this
    exact PcsIn.nil _ W
  · refine ⟨_, cap, rfl, hn, by unfold maxLen at hc; omega, fun _ => ⟨g, 0, rfl, heap_lt hh, hg, fun j y hy => ?_⟩⟩
    have hj : j < ps.length := (List.getElem?_eq_some_iff.1 hy).1
    obtain ⟨g1, g2⟩ := pcsCells_get ps j y hy
    have key : ∀ (i : Nat) (u : Value), i < ps.length * 2 → (pcsCells ps)[i]? = some u → W.cell? ⟨g, 0 + i, none⟩ = some u := by
      intro i u hi hu
      rw [Nat.zero_add, cell_of_row W g i _ _ (0, 0) hh, ← hu, ← ht, List.getElem?_take, if_pos hi]
      simp
    exact ⟨key _ _ (by omega) g1, by rw [Nat.add_assoc]; exact key _ _ (by omega) g2⟩
/-- What a call answers: these pieces, in memory of its own. -/
def RetPcs (ps : List Pc) (w : World) (e : Ending) (w' : World) : Prop := ∃ v, e = .returned v ∧ PcsIn (fun b => w.heap.size ≤ b) w' v ps ∧ Below w.heap.size w w'

set_option maxRecDepth 100000 in
set_option maxHeartbeats 2000000 in
theorem clonePcs_any (v : Value) (ps : List Pc) (w : World) (h : PcsAt w v ps) (hl : ps.length ≤ 1000) : Calls Tryz.prog 166 #[v] w (RetPcs ps w) := by
  obtain ⟨A, c, rfl, hc1, hc2, hat⟩ := h
  have q22 : ∀ (w : World) (a : Option Addr) (n c n' c' : Nat), (binOp .eql 46 (.slice a n c) (.slice none n' c')).run Tryz.prog w = .ok (.bool a.isNone) w := fun w a n c n' c' => Lib.run_eql_slice_nil w _ _ a n c n' c' Tryz.underlying46
  rcases A with _ | a
  · have : ps = [] := by
      rcases Nat.eq_zero_or_pos ps.length with h | h
      · exact List.eq_nil_of_length_eq_zero h
      · obtain ⟨b, off, e, _⟩ := hat h; cases e
    subst this
    clear hat
    go_enter Tryz.func166, Tryz.ntmps166
    go_wp2
    go_ret
    exact ⟨_, rfl, PcsIn.nil _ _, Below.refl _ _⟩
  · have hb : Below w.heap.size w (w.alloc (.cells #[] 84)) := (Below.refl _ w).alloc (Nat.le_refl _) _
    have hlit := World.ownsRow_lit (base := w.heap.size) (e := 84) (size := 2) w #[] 0 (Nat.le_refl _) (by unfold maxLen; omega) rfl
    obtain ⟨i, hi, hz0, hz1, hz2⟩ := info_parts Tryz.infoPc
    have HLIT := Lib.hid hlit
    have HB := Lib.hid hb
    have hcell : Hid (∀ j u, (pcsCells ps)[j]? = some u → (w.alloc (.cells #[] 84)).cell? (a.add j) = some u) := Lib.hid (fun j u hj => by
      have hj' : j < ps.length * 2 := by rw [← pcsCells_length]; exact (List.getElem?_eq_some_iff.1 hj).1
      obtain ⟨b, off, e, hlt, _, hc⟩ := hat (by omega)
      cases e
      rw [Addr.add_lit]
      exact (hb.cell (p := ⟨b, off + j, none⟩) hlt).trans (pcsCells_of ps hc j u hj))
    generalize hn : ps.length = n at *
    have HN := Lib.hid hn
    have HI := Lib.hid hi
    have HLEN := Lib.hid (show (pcsCells ps).length = n * 2 by rw [pcsCells_length]; omega)
    have HONE := Lib.hid (pcsCells_one ps)
    have HMX := Lib.hid (show 0 + n ≤ maxLen by unfold maxLen; omega)
    have HBY := Lib.hid (show (0 + n) * 16 ≤ 140737488355328 by omega)
    have HBS := Lib.hid (show w.heap.size ≤ (w.alloc (.cells #[] 84)).heap.size by simp)
    clear hat hlit hb hn
    go_enter Tryz.func166, Tryz.ntmps166
    go_wp2_with (at_builtin; refine wpList_append_own _ rfl _ _ 46 rfl w.heap.size 84 i (.agg #[.int .i64 0, .int .u64 0]) 2 16 Tryz.underlying46 HI.out hz0 hz1 hz2 rfl (by decide) _ 0 [] rfl HLIT.out a n _ (pcsCells ps) rfl HLEN.out hcell.out HONE.out HMX.out HBY.out HBS.out ?_)
    intro v2 w2 hown2 hg2 _
    have HO2 := Lib.hid hown2
    have HB2 := Lib.hid (HB.out.trans ((Below.refl w.heap.size _).grown hg2 (by simp) (fun k hk => by cases hk; exact Nat.le_refl _)))
    clear hown2 hg2
    go_wp2
    go_ret
    have h := HO2.out
    rw [← HN.out] at h
    exact ⟨_, rfl, pcs_of_own h, HB2.out⟩

/-- What a call answers: this place, its pieces in blocks of F. -/
def RetPl (F : Nat → Prop) (x : Pl) (w : World) (e : Ending) (w' : World) : Prop := ∃ v, e = .returned (plA v x) ∧ PcsIn F w' v x.ps ∧ Below w.heap.size w w'
theorem one4 (a b c : Int) (A : Option Addr) (n d : Nat) : (#[.int .i64 a, .int .i64 b, .int .i64 c, .slice A n d] : Array Value).all (·.oneCell') = true := by simp [Value.oneCell']
theorem below_row16 {B g : Nat} {a w : World} (h : Below B a w) (hg : B ≤ g) (cs : Array Value) : Below B a (w.setRow g cs) := h.trans ⟨rfl, rfl, rfl, by simp, fun k hk => setRow_other _ _ _ _ (by omega)⟩

set_option maxRecDepth 100000 in
set_option maxHeartbeats 2000000 in
theorem clonePl_any (v : Value) (x : Pl) (w : World) (h : PcsAt w v x.ps) (hl : x.ps.length ≤ 1000) :
    Calls Tryz.prog 124 #[plA v x] w (RetPl (fun b => w.heap.size ≤ b) x w) := by
  obtain ⟨w1, P, hw1, hP, hPl, hb1, hbox⟩ := box_any w #[.int .i64 x.u, .int .i64 x.s, .int .i64 x.c, v] 48
  obtain ⟨w2, N, hw2, hN, hNl, hb2, hnb⟩ := box_any w1 #[.int .i64 0, .int .i64 0, .int .i64 0, .slice none 0 0] 48
  have HB2 := Lib.hid (hb1.trans (hb2.mono hb1.size))
  have HC := Lib.hid (clonePcs_any v x.ps w2 (h.keep HB2.out) hl)
  have HPB := Lib.hid (keep_block hbox hb2)
  have HNB := Lib.hid hnb
  obtain ⟨p0, p1, p2, p3⟩ := four_heads HPB.out
  have HLT := Lib.hid (show w.heap.size ≤ P ∧ P < N ∧ N < w2.heap.size by have := hb1.size; omega)
  clear h hb1 hb2 hbox hnb
  unfold plA
  go_enter Tryz.func124, Tryz.ntmps124
  go_wp2_with fail
  refine HC.out.mono ?_
  rintro e w3 ⟨v', rfl, hps, hb3⟩
  have HPS := Lib.hid hps
  have HB3 := Lib.hid (HB2.out.trans (hb3.mono HB2.out.size))
  have HP3 := Lib.hid (keep_block HPB.out hb3)
  have HN3 := Lib.hid (keep_block HNB.out hb3)
  have HLT3 := Lib.hid (show N < w3.heap.size by have := HLT.out; have := hb3.size; omega)
  have HF2 := Lib.hid (show w2.heap.size ≤ w3.heap.size from hb3.size)
  have HP4 : Hid ((w3.setCell ⟨P, 3, none⟩ v').heap[P]? = some (.cells #[.int .i64 x.u, .int .i64 x.s, .int .i64 x.c, v'] 48 (0, 0))) := heap_setCell_mem _ _ _ _ _ _ _ HP3.out
  have HN4 : Hid ((w3.setCell ⟨P, 3, none⟩ v').heap[N]? = some (.cells #[.int .i64 0, .int .i64 0, .int .i64 0, .slice none 0 0] 48 (0, 0))) := (Below.heap_setCell _ _ _ _ (show N ≠ P by have := HLT.out; omega)).trans HN3.out
  obtain ⟨w4, hw4⟩ : ∃ w4, w3.setCell ⟨P, 3, none⟩ v' = w4 := ⟨_, rfl⟩
  have HB4 : Hid (Below w.heap.size w w4) := by rw [← hw4]; exact HB3.out.setCell (p := ⟨P, 3, none⟩) HLT.out.1 _
  have HPS4 : Hid (PcsIn (fun b => w.heap.size ≤ b) (w4.setRow N #[.int .i64 x.u, .int .i64 x.s, .int .i64 x.c, v']) v' x.ps) := by
    have h1 := HLT.out
    refine (HPS.out.keepF (by rw [← hw4]; simp [World.setCell]) fun b hb hF => ?_).mono fun b _ hF => by have := HB2.out.size; omega
    have h2 : b ≠ P ∧ b ≠ N := by omega
    rw [← hw4]
    exact (setRow_other _ _ _ _ h2.2).trans (Below.heap_setCell _ _ _ _ h2.1)
  rw [hw4] at HP4 HN4
  obtain ⟨r0, r1, r2, r3⟩ := four_heads HP4.out
  obtain ⟨s0, s1, s2, s3⟩ := four_heads HP3.out
  obtain ⟨f3⟩ : w3.frozen? ⟨P, 3, none⟩ = false ∧ True := ⟨by have e := HP3.out; simp [World.frozen?, e], trivial⟩
  obtain ⟨A', d', hv'⟩ := HPS.out.form
  subst hv'
  clear hps hb3 p0 p1 p2 p3 hw1 hP hw2
  go_wp2_with (refine wpList_store_row rfl _ _ _ rfl N #[.int .i64 x.u, .int .i64 x.s, .int .i64 x.c, .slice A' x.ps.length d'] rfl rfl 48 _ HN4.out (Tryz.sizePl _ _ _ _) rfl (one4 _ _ _ _ _ _) ?_)
  refine bodyPost_ret (v := .agg #[.int .i64 x.u, .int .i64 x.s, .int .i64 x.c, .slice A' x.ps.length d']) (results_cell_row rfl _ _ N _ _ _ _ rfl (setRow_heap _ _ _ _ _ _ HN4.out) Tryz.underlying48 rfl (Tryz.sizePl _ _ _ _)) rfl ?_
  exact ⟨_, rfl, HPS4.out, below_row16 HB4.out (by have := HLT.out; omega) _⟩
end Go.Proofs.YtpfpojehcjmfnaaGreat

/-
  Rows of places, each with where its pieces lie.
  Conditions: none.
-/
set_option linter.unusedVariables false
namespace Go.Proofs.YtpfpojehcjmfnaaGreat
open Go.RowKit

/-- A place, and where its pieces lie. -/
abbrev Rp := (Option Addr × Nat) × Pl
def rpV (r : Rp) : Value := .slice r.1.1 r.2.ps.length r.1.2
def rpCells (m : Rp) : List Value := [.int .i64 m.2.u, .int .i64 m.2.s, .int .i64 m.2.c, rpV m]
def rowP (l : List Rp) : List Value := l.flatMap rpCells
theorem rowP_cons (m : Rp) (l : List Rp) : rowP (m :: l) = .int .i64 m.2.u :: .int .i64 m.2.s :: .int .i64 m.2.c :: rpV m :: rowP l := by simp [rowP, rpCells]
theorem rowP_append (l k : List Rp) : rowP (l ++ k) = rowP l ++ rowP k := by simp [rowP]
theorem rowP_length : ∀ (l : List Rp), (rowP l).length = l.length * 4
  | [] => rfl
  | m :: l => by rw [rowP_cons]; simp [rowP_length l]; omega
theorem rowP_get : ∀ (l : List Rp) (j : Nat) (m : Rp), l[j]? = some m → (rowP l)[j * 4]? = some (.int .i64 m.2.u) ∧ (rowP l)[j * 4 + 1]? = some (.int .i64 m.2.s) ∧ (rowP l)[j * 4 + 2]? = some (.int .i64 m.2.c) ∧ (rowP l)[j * 4 + 3]? = some (rpV m)
  | [], j, m, h => by simp at h
  | x :: l, 0, m, h => by
    simp at h
    subst h
    exact ⟨rfl, rfl, rfl, rfl⟩
  | x :: l, j + 1, m, h => by
    have ih := rowP_get l j m (by simpa using h)
    rw [rowP_cons, show (j + 1) * 4 = j * 4 + 1 + 1 + 1 + 1 by omega]
    simpa using ih
theorem rowP_one (l : List Rp) : ∀ u ∈ rowP l, u.oneCell' = true := by
  intro u hu
  obtain ⟨m, _, hm⟩ := List.mem_flatMap.1 hu
  simp [rpCells] at hm
  rcases hm with rfl | rfl | rfl | rfl <;> rfl
theorem rowP_take : ∀ (l : List Rp) (i : Nat), (rowP l).take (i * 4) = rowP (l.take i)
  | [], i => by simp [rowP]
  | m :: l, 0 => by simp [rowP]
  | m :: l, i + 1 => by
    rw [rowP_cons, show (i + 1) * 4 = i * 4 + 1 + 1 + 1 + 1 by omega, List.take_succ_cons, List.take_succ_cons, List.take_succ_cons, List.take_succ_cons, rowP_take l i, List.take_succ_cons, rowP_cons]
theorem rowP_drop : ∀ (l : List Rp) (i : Nat), (rowP l).drop (i * 4) = rowP (l.drop i)
  | [], i => by simp [rowP]
  | m :: l, 0 => by simp [rowP]
  | m :: l, i + 1 => by
    rw [rowP_cons, show (i + 1) * 4 = i * 4 + 1 + 1 + 1 + 1 by omega, List.drop_succ_cons, List.drop_succ_cons, List.drop_succ_cons, List.drop_succ_cons, rowP_drop l i, List.drop_succ_cons]
theorem rp_of {F : Nat → Prop} {W : World} {v : Value} {x : Pl} (h : PcsIn F W v x.ps) : ∃ r : Rp, r.2 = x ∧ rpV r = v := by
  obtain ⟨A, d, rfl⟩ := h.form
  exact ⟨((A, d), x), rfl, rfl⟩
def plsR (ls : List Rp) : List Pl := ls.map Prod.snd
/-- All pieces of the places lie in blocks of F. -/
def AllPcs (F : Nat → Prop) (W : World) (ls : List Rp) : Prop := ∀ r ∈ ls, PcsIn F W (rpV r) r.2.ps
theorem AllPcs.keepF {F : Nat → Prop} {W W' : World} {ls : List Rp} (h : AllPcs F W ls) (hs : W.heap.size ≤ W'.heap.size) (hk : ∀ b, b < W.heap.size → F b → W'.heap[b]? = W.heap[b]?) : AllPcs F W' ls := fun r hr => (h r hr).keepF hs hk
theorem AllPcs.keep {F : Nat → Prop} {W W' : World} {ls : List Rp} (h : AllPcs F W ls) (hb : Below W.heap.size W W') : AllPcs F W' ls := fun r hr => (h r hr).keep hb
theorem AllPcs.mono {F G : Nat → Prop} {W : World} {ls : List Rp} (h : AllPcs F W ls) (hg : ∀ b, b < W.heap.size → F b → G b) : AllPcs G W ls := fun r hr => (h r hr).mono hg
theorem AllPcs.nil (F : Nat → Prop) (W : World) : AllPcs F W [] := fun r hr => by cases hr
theorem AllPcs.snoc {F : Nat → Prop} {W : World} {ls : List Rp} (h : AllPcs F W ls) {r : Rp} (hr : PcsIn F W (rpV r) r.2.ps) : AllPcs F W (ls ++ [r]) := fun x hx => by
  rcases List.mem_append.1 hx with hx | hx
  · exact h x hx
  · rw [List.mem_singleton.1 hx]; exact hr
/-- A row of one's own that reads as places, their pieces in blocks of F. -/
theorem pls_of_own {W : World} {base : Nat} {v : Value} {ls : List Rp} {F : Nat → Prop} (h : W.ownsRow base 48 4 v ls.length (rowP ls)) (hp : AllPcs F W ls) : PlsIn (fun b => F b ∨ base ≤ b) W v (plsR ls) := by
  have hpp : ∀ p ∈ ls.map (fun r => (rpV r, r.2)), PcsIn (fun b => F b ∨ base ≤ b) W p.1 p.2.ps := fun p hp' => by
    obtain ⟨r, hr, rfl⟩ := List.mem_map.1 hp'
    exact (hp r hr).mono fun b _ hF => .inl hF
  have hl : (ls.map (fun r => (rpV r, r.2))).length = ls.length := by simp
  have he : plsOf (ls.map (fun r => (rpV r, r.2))) = plsR ls := by unfold plsOf plsR; rw [List.map_map]; rfl
  obtain ⟨h1, h2⟩ := h
  rcases h2 with ⟨rfl, h0⟩ | ⟨g, cap, cur, rfl, hg, hh, hn, hc, hs, ht⟩
  · have : ls = [] := List.eq_nil_of_length_eq_zero h0
    subst this
    exact PlsIn.nil _ W
  · refine ⟨_, he, _, cap, by rw [hl], by rw [hl]; exact hn, by unfold maxLen at hc; omega, fun _ => ⟨g, 0, rfl, heap_lt hh, .inr hg, fun j p hp' => ?_⟩, hpp⟩
    rw [List.getElem?_map] at hp'
    obtain ⟨r, hr, rfl⟩ := Option.map_eq_some_iff.1 hp'
    have hj : j < ls.length := (List.getElem?_eq_some_iff.1 hr).1
    obtain ⟨g0, g1, g2, g3⟩ := rowP_get ls j r hr
    have key : ∀ (i : Nat) (u : Value), i < ls.length * 4 → (rowP ls)[i]? = some u → W.cell? ⟨g, 0 + i, none⟩ = some u := by
      intro i u hi hu
      rw [Nat.zero_add, cell_of_row W g i _ _ (0, 0) hh, ← hu, ← ht, List.getElem?_take, if_pos hi]
      simp
    exact ⟨key _ _ (by omega) g0, by rw [Nat.add_assoc]; exact key _ _ (by omega) g1, by rw [Nat.add_assoc]; exact key _ _ (by omega) g2, by rw [Nat.add_assoc]; exact key _ _ (by omega) g3⟩
/-- Places that lie: each with where its pieces lie. -/
theorem pls_rows {F : Nat → Prop} {W : World} {v : Value} {l : List Pl} (h : PlsIn F W v l) : ∃ ls : List Rp, plsR ls = l ∧ AllPcs F W ls ∧ ∃ A c, v = .slice A l.length c ∧ (0 < l.length → ∃ b off, A = some ⟨b, off, none⟩ ∧ b < W.heap.size ∧ F b ∧ ∀ (i : Nat) (u : Value), (rowP ls)[i]? = some u → W.cell? ⟨b, off + i, none⟩ = some u) := by
  obtain ⟨qs, rfl, A, c, rfl, h2, h3, h4, h5⟩ := h
  have key : ∀ qs : List (Value × Pl), (∀ p ∈ qs, PcsIn F W p.1 p.2.ps) → ∃ ls : List Rp, ls.map (fun r => (rpV r, r.2)) = qs := by
    intro qs
    induction qs with
    | nil => exact fun _ => ⟨[], rfl⟩
    | cons p qs ih =>
      intro hq
      obtain ⟨ls, hls⟩ := ih fun q hq' => hq q (by simp [hq'])
      obtain ⟨r, hr1, hr2⟩ := rp_of (hq p (by simp))
      exact ⟨r :: ls, by rw [List.map_cons, hls, hr1, hr2]⟩
  obtain ⟨ls, hls⟩ := key qs h5
  subst hls
  have he : plsOf (ls.map (fun r => (rpV r, r.2))) = plsR ls := by unfold plsOf plsR; rw [List.map_map]; rfl
  rw [he]
  have hlen : (plsR ls).length = ls.length := by unfold plsR; simp
  refine ⟨ls, rfl, fun r hr => h5 (rpV r, r.2) (List.mem_map.2 ⟨r, hr, rfl⟩), A, c, by rw [hlen, List.length_map], fun h0 => ?_⟩
  obtain ⟨b, off, e, hlt, hf, hc⟩ := h4 (by rw [List.length_map]; omega)
  refine ⟨b, off, e, hlt, hf, fun i u hu => ?_⟩
  have hi : i < ls.length * 4 := by
    have := (List.getElem?_eq_some_iff.1 hu).1
    rwa [rowP_length] at this
  obtain ⟨r, hr⟩ := exP_at (xs := ls) (k := i / 4) (by omega)
  obtain ⟨g0, g1, g2, g3⟩ := rowP_get ls (i / 4) r hr
  obtain ⟨k0, k1, k2, k3⟩ := hc (i / 4) (rpV r, r.2) (by rw [List.getElem?_map, hr]; rfl)
  have hm : i = i / 4 * 4 ∨ i = i / 4 * 4 + 1 ∨ i = i / 4 * 4 + 2 ∨ i = i / 4 * 4 + 3 := by omega
  generalize i / 4 = q at *
  rcases hm with rfl | rfl | rfl | rfl
  · rw [g0] at hu; rw [k0]; exact hu
  · rw [g1] at hu; rw [← Nat.add_assoc, k1]; exact hu
  · rw [g2] at hu; rw [← Nat.add_assoc, k2]; exact hu
  · rw [g3] at hu; rw [← Nat.add_assoc, k3]; exact hu
end Go.Proofs.YtpfpojehcjmfnaaGreat

/-
  slices.Insert of one place into a row of the caller's own.
  Conditions: the row is of the caller's own; the one that is put lies in another block.
-/
set_option linter.unusedVariables false
namespace Go.Proofs.YtpfpojehcjmfnaaGreat
open Go.RowKit Go.Proofs

def Grew (w : World) (mv mv' : Value) : Prop := ∀ k, mv'.ownBlock = some k → mv.ownBlock = some k ∨ w.heap.size ≤ k
/-- What a call answers that changes a row of its caller's. -/
def RetMp (base e : Nat) (v : Value) (l : List Rp) (w : World) (en : Ending) (w' : World) : Prop := ∃ v', en = .returned v' ∧ w'.ownsRow base e 4 v' l.length (rowP l) ∧ Apart (fun k => v.ownBlock = some k) w w' ∧ Grew w v v'
theorem apart_grown0 {w w' : World} {row : Option Nat} (hg : w.grownBy w' row) : Apart (fun k => row = some k) w w' := ⟨hg.os, hg.tape, hg.output, hg.size, fun k hk hn => hg.block k hk (fun e => hn e.symm)⟩
theorem rowP_snoc (l : List Rp) (x : Rp) : rowP (l ++ [x]) = rowP l ++ rpCells x := by rw [rowP_append]; simp [rowP]
theorem rp_one (x : Rp) : ∀ u ∈ rpCells x, u.oneCell' = true := by
  intro u hu
  simp [rpCells] at hu
  rcases hu with rfl | rfl | rfl | rfl <;> rfl

def splice (l : List Value) (o : Nat) (cs : List Value) : List Value := l.take o ++ cs ++ l.drop (o + cs.length)
theorem splice_length {l cs : List Value} {o : Nat} (h : o + cs.length ≤ l.length) : (splice l o cs).length = l.length := by simp [splice]; omega
theorem splice_get {l cs : List Value} {o : Nat} (h : o + cs.length ≤ l.length) (j : Nat) : (splice l o cs)[j]? = if o ≤ j ∧ j < o + cs.length then cs[j - o]? else l[j]? := by
  unfold splice
  rw [List.append_assoc]
  by_cases h1 : j < o
  · rw [if_neg (by omega), List.getElem?_append_left (by rw [List.length_take]; omega), List.getElem?_take_of_lt h1]
  · rw [List.getElem?_append_right (by rw [List.length_take]; omega), List.length_take, Nat.min_eq_left (by omega)]
    by_cases h2 : j < o + cs.length
    · rw [if_pos ⟨by omega, h2⟩, List.getElem?_append_left (by omega)]
    · rw [if_neg (by omega), List.getElem?_append_right (by omega), List.getElem?_drop]
      congr 1
      omega

theorem run_copy_k {P : Program} (w : World) (dT sT ty elem : TypeId) (k g o dLen dCap : Nat) (a : Addr) (sLen sCap : Nat) (cur : Array Value) (t : TypeId) (cs : List Value)
    (hu : P.underlying dT = some (.slice elem)) (hs : (P.info? elem).map (·.size) = some k)
    (hg : w.heap[g]? = some (.cells cur t (0, 0))) (hn : cs.length = Nat.min sLen dLen * k)
    (hsrc : ∀ j v, cs[j]? = some v → w.cell? (a.add j) = some v) (hfit : o + cs.length ≤ cur.size) (h1 : ∀ v ∈ cs, v.oneCell' = true) :
    (Builtin.copy_ #[dT, sT] ty #[.slice (some ⟨g, o, none⟩) dLen dCap, .slice (some a) sLen sCap]).run P w =
      .ok (goInt (Nat.min sLen dLen)) (w.setRow g (splice cur.toList o cs).toArray) := by
  have hl := run_firstCells_some (P := P) (w := w) k (Nat.min sLen dLen) a sLen sCap cs hn hsrc
  have hst := run_storeCells_at P g o t cs 0 cur w hg (by simpa using hfit) h1
  cases hq : P.info? elem with
  | none => simp [hq] at hs
  | some i =>
    have hi : i.size = k := by simpa [hq] using hs
    simp only [Nat.add_zero] at hst
    simp [Builtin.copy_, run_underlying hu, Builtin.lenOf, sizeOf, typeInfo, hq, hi, hl, hst, splice]

/-- The row with one more. -/
theorem ins_cells (ps : List Rp) (k : Nat) (x : Rp) : rowP (ps.take k ++ [x] ++ ps.drop k) = (rowP ps).take (k * 4) ++ rpCells x ++ (rowP ps).drop (k * 4) := by
  rw [rowP_append, rowP_append, rowP_take, rowP_drop]
  simp [rowP]
theorem ins_get {S : List Value} {n k : Nat} (us : List Value) (hus : us.length = 4) (hS : S.length = n * 4) (hk : k ≤ n) (j : Nat) :
    (S.take (k * 4) ++ us ++ S.drop (k * 4))[j]? = if j < k * 4 then S[j]? else if j < k * 4 + 4 then us[j - k * 4]? else S[j - 4]? := by
  rw [List.append_assoc]
  by_cases h1 : j < k * 4
  · rw [if_pos h1, List.getElem?_append_left (by rw [List.length_take]; omega), List.getElem?_take_of_lt h1]
  · rw [if_neg h1, List.getElem?_append_right (by rw [List.length_take]; omega), List.length_take, Nat.min_eq_left (by omega)]
    by_cases h2 : j < k * 4 + 4
    · rw [if_pos h2, List.getElem?_append_left (by omega)]
    · rw [if_neg h2, List.getElem?_append_right (by omega), List.getElem?_drop]
      congr 1
      omega
theorem ins_shift4 {l S : List Value} {n k : Nat} (us : List Value) (hus : us.length = 4) (hS : S.length = n * 4) (hk : k < n) (hl : (n + 1) * 4 ≤ l.length) (hp : l.take (n * 4) = S) :
    (splice (splice l ((k + 1) * 4) (S.drop (k * 4))) (k * 4) us).take ((n + 1) * 4) = S.take (k * 4) ++ us ++ S.drop (k * 4) := by
  have hd : (S.drop (k * 4)).length = n * 4 - k * 4 := by rw [List.length_drop, hS]
  apply List.ext_getElem?
  intro j
  rw [ins_get us hus hS (by omega)]
  by_cases hj : j < (n + 1) * 4
  · rw [List.getElem?_take_of_lt hj, splice_get (by rw [splice_length (by rw [hd]; omega)]; omega), splice_get (by rw [hd]; omega)]
    simp only [hus]
    by_cases h1 : j < k * 4
    · rw [if_neg (by omega), if_neg (by omega), if_pos h1, ← hp, List.getElem?_take_of_lt (by omega)]
    · by_cases h2 : j < k * 4 + 4
      · rw [if_pos (by omega), if_neg h1, if_pos h2]
      · rw [if_neg (by omega), if_pos (by rw [hd]; omega), if_neg h1, if_neg h2, List.getElem?_drop]
        congr 1
        omega
  · rw [List.getElem?_take_eq_none (by omega), if_neg (by omega), if_neg (by omega), List.getElem?_eq_none (by omega)]
theorem ins_grow {l S : List Value} {n k : Nat} (us : List Value) (hus : us.length = 4) (hS : S.length = n * 4) (hk : k < n) (hl : (n + 1) * 4 ≤ l.length) (hp : l.take (k * 4) = S.take (k * 4)) :
    (splice (splice l (k * 4) us) ((k + 1) * 4) (S.drop (k * 4))).take ((n + 1) * 4) = S.take (k * 4) ++ us ++ S.drop (k * 4) := by
  have hd : (S.drop (k * 4)).length = n * 4 - k * 4 := by rw [List.length_drop, hS]
  apply List.ext_getElem?
  intro j
  rw [ins_get us hus hS (by omega)]
  by_cases hj : j < (n + 1) * 4
  · rw [List.getElem?_take_of_lt hj, splice_get (by rw [splice_length (by omega), hd]; omega), splice_get (by omega)]
    simp only [hus]
    by_cases h1 : j < k * 4
    · rw [if_neg (by omega), if_neg (by omega), if_pos h1, ← List.getElem?_take_of_lt (l := l) h1, hp, List.getElem?_take_of_lt h1]
    · by_cases h2 : j < k * 4 + 4
      · rw [if_neg (by omega), if_pos (by omega), if_neg h1, if_pos h2]
      · rw [if_pos (by rw [hd]; omega), if_neg h1, if_neg h2, List.getElem?_drop]
        congr 1
        omega
  · rw [List.getElem?_take_eq_none (by omega), if_neg (by omega), if_neg (by omega), List.getElem?_eq_none (by omega)]

theorem setRow_block {w : World} {g k : Nat} {cs : Array Value} (h : k ≠ g) : (w.setRow g cs).heap[k]? = w.heap[k]? := by
  unfold World.setRow
  show (w.heap.modify g _)[k]? = _
  rw [Array.getElem?_modify, if_neg (fun e => h e.symm)]
theorem setRow_size {w : World} {g : Nat} {cs : Array Value} : (w.setRow g cs).heap.size = w.heap.size := by simp [World.setRow]
theorem below_setRow {B : Nat} {a w : World} {g : Nat} {cs : Array Value} (h : Below B a w) (hg : B ≤ g) : Below B a (w.setRow g cs) :=
  h.trans ⟨rfl, rfl, rfl, by rw [setRow_size]; exact Nat.le_refl _, fun k hk => setRow_block (by omega)⟩
theorem Apart.drew1 {F : Nat → Prop} {a w : World} (h : Apart F a w) : Apart F a w.drew := ⟨h.os, h.tape, h.output, h.size, h.block⟩
theorem apart_setRow {F : Nat → Prop} {a w : World} {g : Nat} {cs : Array Value} (h : Apart F a w) (hg : F g) : Apart F a (w.setRow g cs) :=
  h.trans (F' := fun k => k = g) ⟨rfl, rfl, rfl, by rw [setRow_size]; exact Nat.le_refl _, fun k hk hn => setRow_block hn⟩ (fun x hx e => by subst e; exact hg)
theorem Tryz.sizePl4 : (Tryz.prog.info? 48).map (·.size) = some 4 := by
  obtain ⟨i0, hi0, h0, h1, h2⟩ := info_parts Tryz.infoPl
  rw [hi0]; simp [h1]
theorem overlaps_no (w : World) (vb g o lb cb la ca : Nat) (cur one : Array Value) (tA tB : Nat) (hne : vb ≠ g) (hg : w.heap[g]? = some (.cells cur tA (0, 0))) (hv : w.heap[vb]? = some (.cells one tB (0, 0))) (hc : cur.size ≠ 0) :
    (callFunc 169 #[.slice (some ⟨vb, 0, none⟩) la ca, .slice (some ⟨g, o, none⟩) lb cb]).run Tryz.prog w = .ok (.value (.bool false)) w := by
  rw [run_callFunc_extern Tryz.func169 (by kernel_rfl) (by kernel_rfl) (by kernel_rfl) (e := Extern.SlicesOverlaps.overlaps #[24, 24] #[4]) (by kernel_rfl),
    Lib.run_overlaps_apart w 24 4 48 Tryz.underlying24 4 Tryz.sizeOf48 ⟨vb, 0, none⟩ ⟨g, o, none⟩ la ca lb cb hne tB tA one.size cur.size (by simp [World.shape?, hv]) (by simp [World.shape?, hg]) hc (by simp [World.frozen?, hv]) (by simp [World.frozen?, hv])]
  rfl

theorem own_block_cap (A : Option Addr) (n c n' c' : Nat) : (Value.slice A n c).ownBlock = (Value.slice A n' c').ownBlock := by cases A <;> rfl
set_option maxRecDepth 100000 in
/-- At the end. -/
theorem insert_end (base : Nat) (v : Value) (ps : List Rp) (x : Rp) (vb : Nat) (w : World) (h : w.ownsRow base 48 4 v ps.length (rowP ps)) (hl : ps.length ≤ 1000) (hbase : base ≤ w.heap.size)
    (hv : w.heap[vb]? = some (.cells #[.int .i64 x.2.u, .int .i64 x.2.s, .int .i64 x.2.c, rpV x] 48 (0, 0))) :
    Calls Tryz.prog 130 #[v, .int .i64 ps.length, .slice (some ⟨vb, 0, none⟩) 1 1] w (RetMp base 48 v (ps ++ [x]) w) := by
  obtain ⟨i0, hi, hz0, hz1, hz2⟩ := info_parts Tryz.infoPl
  have HO := Lib.hid h
  have HLEN := Lib.hid (show (ps ++ [x]).length = ps.length + 1 by simp)
  have HSN := Lib.hid (rowP_snoc ps x)
  have hnews : Hid (∀ j u, (rpCells x)[j]? = some u → w.cell? ((⟨vb, 0, none⟩ : Addr).add j) = some u) := fun j u hj => by
    rw [Addr.add_lit, Nat.zero_add, cell_of_row w vb j _ _ (0, 0) hv]
    simpa [rpCells] using hj
  obtain ⟨A, c, rfl⟩ := own_form h
  generalize hn : ps.length = n at *
  clear h hn hv
  have hz3 : (n : Int) = (n : Int) := rfl
  have hcap : Hid (n ≤ c) := by
    show n ≤ c
    rcases HO.out.2 with ⟨h1, h2⟩ | ⟨g, cap, cur, h1, _, _, h3, _⟩
    · cases h1; omega
    · cases h1; exact h3
  have hcz : (n : Int) ≤ (c : Int) := Int.ofNat_le.2 hcap.out
  have HONE := Lib.hid (rp_one x)
  have HM := Lib.hid (show n + 1 ≤ maxLen by unfold maxLen; omega)
  have HBY := Lib.hid (show (n + 1) * 48 ≤ 140737488355328 by omega)
  have HBA := Lib.hid hbase
  go_enter Tryz.func130, Tryz.ntmps130
  go_wp2_with (at_builtin; refine wpList_append_own_at _ rfl _ _ 24 rfl base 48 i0 (.agg #[.int .i64 0, .int .i64 0, .int .i64 0, .slice none 0 0]) 4 48 Tryz.underlying24 hi hz0 hz1 hz2 rfl (by decide) _ _ _ rfl HO.out ⟨vb, 0, none⟩ 1 1 (rpCells x) rfl rfl hnews.out HONE.out HM.out HBY.out HBA.out ?_)
  all_goals
    intro v2 w2 hown2 hgrow _ hat2
    have HA2 := Lib.hid (apart_grown0 hgrow)
    have HG2 := Lib.hid hat2
    clear hat2
    have HO2 := Lib.hid hown2
    clear hown2 hgrow
    go_wp2
    go_ret
    refine ⟨_, rfl, ?_, (Apart.refl _ w).trans HA2.out (fun x _ hx => (own_block_cap A n c _ _).trans hx), fun k hk => HG2.out.elim (fun e => .inl ((own_block_cap A n c _ _).trans (e.symm.trans hk))) (fun e => .inr (Nat.le_of_eq (Option.some.inj (e.symm.trans hk))))⟩
    rw [HLEN.out, HSN.out]
    exact HO2.out

set_option maxHeartbeats 4000000 in
set_option maxRecDepth 100000 in
/-- There is room: what stands from there on is moved by one. -/
theorem insert_shift (base : Nat) (g c : Nat) (cur : Array Value) (ps : List Rp) (k : Nat) (x : Rp) (vb : Nat) (w : World) (hg : w.heap[g]? = some (.cells cur 48 (0, 0))) (hbg : base ≤ g)
    (hk : k < ps.length) (hc : ps.length + 1 ≤ c) (hcm : c ≤ maxLen) (hcs : cur.size = c * 4) (ht : cur.toList.take (ps.length * 4) = rowP ps) (hl : ps.length ≤ 1000) (hbase : base ≤ w.heap.size)
    (hv : w.heap[vb]? = some (.cells #[.int .i64 x.2.u, .int .i64 x.2.s, .int .i64 x.2.c, rpV x] 48 (0, 0))) (hne : vb ≠ g) :
    Calls Tryz.prog 130 #[.slice (some ⟨g, 0, none⟩) ps.length c, .int .i64 k, .slice (some ⟨vb, 0, none⟩) 1 1] w (RetMp base 48 (.slice (some ⟨g, 0, none⟩) ps.length c) (ps.take k ++ [x] ++ ps.drop k) w) := by
  have hov : ∀ lb cb, (callFunc 169 #[.slice (some ⟨vb, 0, none⟩) 1 1, .slice (some ⟨g, (k + 1) * 4, none⟩) lb cb]).run Tryz.prog w = .ok (.value (.bool false)) w := fun lb cb =>
    overlaps_no w vb g _ lb cb 1 1 cur _ _ _ hne hg hv (by omega)
  have hSl := rowP_length ps
  obtain ⟨cs1, hcs1⟩ : ∃ l, l = (rowP ps).drop (k * 4) := ⟨_, rfl⟩
  have hd : cs1.length = (ps.length - k) * 4 := by rw [hcs1, List.length_drop, hSl]; omega
  have hcl : cur.toList.length = c * 4 := by rw [Array.length_toList]; exact hcs
  obtain ⟨L1, hL1⟩ : ∃ l, l = splice cur.toList ((k + 1) * 4) cs1 := ⟨_, rfl⟩
  have hl1 : L1.length = c * 4 := by rw [hL1, splice_length (by rw [hd, hcl]; omega), hcl]
  obtain ⟨L2, hL2⟩ : ∃ l, l = splice L1 (k * 4) (rpCells x) := ⟨_, rfl⟩
  have hl2 : L2.length = c * 4 := by rw [hL2, splice_length (by simp [rpCells]; omega), hl1]
  have HFIN : Hid (L2.take ((ps.length + 1) * 4) = rowP (ps.take k ++ [x] ++ ps.drop k)) := by
    show _ = _
    rw [ins_cells, hL2, hL1, hcs1]
    exact ins_shift4 _ rfl hSl hk (by omega) ht
  have HFL : Hid ((ps.take k ++ [x] ++ ps.drop k).length = ps.length + 1) := by
    show _ = _
    simp
    omega
  have hcell : ∀ (j : Nat) (u : Value), cs1[j]? = some u → w.cell? ⟨g, k * 4 + j, none⟩ = some u := fun j u hj => by
    rw [cell_of_row w g _ _ _ (0, 0) hg, ← Array.getElem?_toList]
    rw [hcs1, List.getElem?_drop, ← ht] at hj
    by_cases h : k * 4 + j < ps.length * 4
    · rwa [List.getElem?_take_of_lt h] at hj
    · rw [List.getElem?_take_eq_none (by omega)] at hj; cases hj
  have hone : ∀ u ∈ cs1, u.oneCell' = true := fun u hu => rowP_one ps u (by rw [hcs1] at hu; exact List.mem_of_mem_drop hu)
  have hmin1 : Nat.min (ps.length + 1 - k) (ps.length + 1 - (k + 1)) = ps.length - k := by
    show min _ _ = _
    omega
  have hmin2 : Nat.min 1 (ps.length + 1 - k) = 1 := by
    show min _ _ = _
    omega
  obtain ⟨q, hq⟩ : ∃ q : Nat, ps.length - k = q := ⟨_, rfl⟩
  have hqe : ps.length + 1 - (k + 1) = ps.length - k := by omega
  have hcp1 : ∀ ty dc sc, (Builtin.copy_ #[24, 24] ty #[.slice (some ⟨g, (k + 1) * 4, none⟩) (ps.length - k) dc, .slice (some ⟨g, k * 4, none⟩) (ps.length + 1 - k) sc]).run Tryz.prog w.drew = .ok (goInt q) (w.drew.setRow g L1.toArray) := fun ty dc sc => by
    have := run_copy_k (P := Tryz.prog) w.drew 24 24 ty 48 4 g ((k + 1) * 4) (ps.length + 1 - (k + 1)) dc ⟨g, k * 4, none⟩ (ps.length + 1 - k) sc cur _ cs1 Tryz.underlying24 Tryz.sizePl4 hg (by rw [hd, hmin1]) (fun j u hj => by rw [Addr.add_lit]; exact hcell j u hj) (by rw [hd, hcs]; omega) hone
    rw [hmin1, ← hL1, hqe, hq] at this
    rw [hq]
    exact this
  have hh1 : (w.drew.setRow g L1.toArray).heap[g]? = some (.cells L1.toArray 48 (0, 0)) := setRow_heap w.drew g cur _ _ _ hg
  have hv1 : (w.drew.setRow g L1.toArray).heap[vb]? = some (.cells #[.int .i64 x.2.u, .int .i64 x.2.s, .int .i64 x.2.c, rpV x] 48 (0, 0)) := (setRow_block hne).trans hv
  have hcp2 : ∀ ty dc, (Builtin.copy_ #[24, 24] ty #[.slice (some ⟨g, k * 4, none⟩) (ps.length + 1 - k) dc, .slice (some ⟨vb, 0, none⟩) 1 1]).run Tryz.prog (w.drew.setRow g L1.toArray) = .ok (goInt 1) ((w.drew.setRow g L1.toArray).setRow g L2.toArray) := fun ty dc => by
    have := run_copy_k (P := Tryz.prog) (w.drew.setRow g L1.toArray) 24 24 ty 48 4 g (k * 4) (ps.length + 1 - k) dc ⟨vb, 0, none⟩ 1 1 L1.toArray _ (rpCells x) Tryz.underlying24 Tryz.sizePl4 hh1 (by rw [hmin2]; rfl)
      (fun j u hj => by rw [Addr.add_lit, Nat.zero_add, cell_of_row _ vb j _ _ (0, 0) hv1]; simpa [rpCells] using hj) (by simp [hl1, rpCells]; omega) (rp_one x)
    rw [hmin2, List.toList_toArray, ← hL2] at this
    exact this
  have HEND : Hid (RetMp base 48 (.slice (some ⟨g, 0, none⟩) ps.length c) (ps.take k ++ [x] ++ ps.drop k) w (.returned (.slice (some ⟨g, 0, none⟩) (ps.length + 1) c)) ((w.drew.setRow g L1.toArray).setRow g L2.toArray)) := by
    refine ⟨_, rfl, ⟨by rw [rowP_length], .inr ⟨g, c, L2.toArray, by rw [HFL.out], hbg, setRow_heap _ g L1.toArray _ _ _ hh1, by rw [HFL.out]; exact hc, hcm, by simpa using hl2, by rw [HFL.out, List.toList_toArray]; exact HFIN.out⟩⟩,
      apart_setRow (apart_setRow (Apart.refl _ w).drew1 rfl) rfl, fun x hx => .inl hx⟩
  generalize hn : ps.length = n at *
  clear hq hqe HFIN HFL hcell hone hmin1 hmin2 hd hcl hl1 hl2 hSl hcs1 hL1 hL2 hh1 hv1 ht hn hcs hg hv
  have hz1 : ¬ ((k : Int) = (n : Int)) := by omega
  have mixed : Tryz.prog.follows .mixedOrders = true := by kernel_rfl
  have hw1 : IntKind.i64.wrap ((k : Int) + 1) = (k : Int) + 1 := by rw [IntKind.wrap_i64]; omega
  have hw2 : IntKind.i64.wrap ((n : Int) + 1) = (n : Int) + 1 := by rw [IntKind.wrap_i64]; omega
  have hcz : c ≤ 9223372036854775807 := by unfold maxLen at hcm; omega
  have hb1 : (0 : Int) ≤ (k : Int) + 1 := by omega
  have hin : k ≤ n := by omega
  have htn : ((k : Int) + 1).toNat = k + 1 := by omega
  have htn2 : ((n : Int) + 1).toNat = n + 1 := by omega
  have hb2 : ¬ (c = k + 1) := by omega
  have hb4 : ¬ (c = k) := by omega
  have hb5 : (k : Int) ≤ (n : Int) + 1 := by omega
  go_enter Tryz.func130, Tryz.ntmps130
  go_wp2_with (simp only [hov])
  go_region_law_o (refine step_copy_runI rfl _ _ 24 24 rfl _ _ (by simp [Act.eval, Act.put]) (by simp [Act.eval, Act.put]) (hcp1 _ _ _) ?_)
  go_wp2_with (at_builtin; refine wpList_copy_runI _ rfl _ _ 24 24 rfl _ _ rfl rfl (hcp2 _ _) ?_)
  go_ret
  exact HEND.out

theorem zeroCells_length (n : Nat) : (Builtin.zeroCells #[.int .i64 0, .int .i64 0, .int .i64 0, .slice none 0 0] n).size = n * 4 := by simp [Builtin.zeroCells]

set_option maxHeartbeats 4000000 in
set_option maxRecDepth 100000 in
/-- There is no room: a new row. -/
theorem insert_grow (base : Nat) (g c : Nat) (ps : List Rp) (k : Nat) (x : Rp) (vb : Nat) (w : World) (hat : ∀ j u, (rowP ps)[j]? = some u → w.cell? ⟨g, j, none⟩ = some u)
    (hk : k < ps.length) (hn : ps.length ≤ c) (hc : c < ps.length + 1) (hl : ps.length ≤ 1000) (hbase : base ≤ w.heap.size) (hgl : g < w.heap.size)
    (hv : w.heap[vb]? = some (.cells #[.int .i64 x.2.u, .int .i64 x.2.s, .int .i64 x.2.c, rpV x] 48 (0, 0))) :
    Calls Tryz.prog 130 #[.slice (some ⟨g, 0, none⟩) ps.length c, .int .i64 k, .slice (some ⟨vb, 0, none⟩) 1 1] w (RetMp base 48 (.slice (some ⟨g, 0, none⟩) ps.length c) (ps.take k ++ [x] ++ ps.drop k) w) := by
  obtain ⟨i0, hi, hz0, hz1, hz2⟩ := info_parts Tryz.infoPl
  have hSl := rowP_length ps
  have hvl : vb < w.heap.size := by
    rcases Nat.lt_or_ge vb w.heap.size with h | h
    · exact h
    · rw [Array.getElem?_eq_none h] at hv; cases hv
  obtain ⟨cs1, hcs1⟩ : ∃ l, l = (rowP ps).drop (k * 4) := ⟨_, rfl⟩
  have hd : cs1.length = (ps.length - k) * 4 := by rw [hcs1, List.length_drop, hSl]; omega
  have hold : (Builtin.firstCells i0.size k (.slice (some ⟨g, 0, none⟩) k c)).run Tryz.prog w.drew = .ok ((rowP ps).take (k * 4)).toArray w.drew := by
    rw [hz1]
    exact run_firstCells_some (w := w.drew) 4 k ⟨g, 0, none⟩ k c _ (by rw [List.length_take, hSl]; omega) (fun j u hj => by
      rw [Addr.add_lit, Nat.zero_add]
      rw [List.getElem?_take] at hj
      split at hj
      · exact hat j u hj
      · cases hj)
  obtain ⟨G, hG⟩ : ∃ G, G = grownCap w (ps.length + 1) c 48 := ⟨_, rfl⟩
  have hGn : ps.length + 1 ≤ G := by rw [hG]; exact grownCap_ge w _ _ _
  have hGm : G ≤ maxLen := by rw [hG]; exact grownCap_le_maxLen w (ps.length + 1) c 48 (by unfold maxLen; omega)
  obtain ⟨ROW, hROW⟩ : ∃ ROW : Array Value, ROW = ((rowP ps).take (k * 4)).toArray ++ Builtin.zeroCells (Value.agg #[.int .i64 0, .int .i64 0, .int .i64 0, .slice none 0 0]).cells (ps.length + 1 - k) ++ Builtin.zeroCells (Value.agg #[.int .i64 0, .int .i64 0, .int .i64 0, .slice none 0 0]).cells (G - (ps.length + 1)) := ⟨_, rfl⟩
  have hRs : ROW.size = G * 4 := by
    rw [hROW, Array.size_append, Array.size_append]
    show _ + (Builtin.zeroCells #[.int .i64 0, .int .i64 0, .int .i64 0, .slice none 0 0] _).size + (Builtin.zeroCells #[.int .i64 0, .int .i64 0, .int .i64 0, .slice none 0 0] _).size = _
    rw [zeroCells_length, zeroCells_length, List.size_toArray, List.length_take, hSl]
    omega
  have hRt : ROW.toList.take (k * 4) = (rowP ps).take (k * 4) := by
    rw [hROW, Array.toList_append, Array.toList_append, List.append_assoc, List.take_append_of_le_length (by simp [hSl]; omega), List.toList_toArray, List.take_take, Nat.min_self]
  have hrz : ∀ ty, (Builtin.append_ #[24, 3] ty #[.slice (some ⟨g, 0, none⟩) k c, .int .i64 ((ps.length : Int) + 1 - (k : Int))]).run Tryz.prog w =
      .ok (.slice (some ⟨w.heap.size, 0, none⟩) (ps.length + 1) G) (w.drew.alloc (.cells ROW 48)) := fun ty => by
    have h := Lib.run_append_grow_zeros w 24 3 ty 48 i0 _ .i64 .i64 Tryz.underlying24 Tryz.underlying3 hi hz0 (some ⟨g, 0, none⟩) k c ((rowP ps).take (k * 4)) hold (ps.length + 1 - k) (by omega) (by omega) (by omega) (by omega) (by rw [hz2]; omega) (by
      rw [hz2, show k + (ps.length + 1 - k) = ps.length + 1 by omega]; exact growslice_fits (by omega) (by omega))
    rw [show k + (ps.length + 1 - k) = ps.length + 1 by omega, ← hG, ← hROW] at h
    rw [show (ps.length : Int) + 1 - (k : Int) = ((ps.length + 1 - k : Nat) : Int) by omega]
    exact h
  obtain ⟨N, hN⟩ : ∃ N, N = w.heap.size := ⟨_, rfl⟩
  obtain ⟨L1, hL1⟩ : ∃ l, l = splice ROW.toList (k * 4) (rpCells x) := ⟨_, rfl⟩
  have hRl : ROW.toList.length = G * 4 := by rw [Array.length_toList]; exact hRs
  have hl1 : L1.length = G * 4 := by rw [hL1, splice_length (by simp [rpCells]; omega), hRl]
  obtain ⟨L2, hL2⟩ : ∃ l, l = splice L1 ((k + 1) * 4) cs1 := ⟨_, rfl⟩
  have hl2 : L2.length = G * 4 := by rw [hL2, splice_length (by rw [hd, hl1]; omega), hl1]
  have HFIN : Hid (L2.take ((ps.length + 1) * 4) = rowP (ps.take k ++ [x] ++ ps.drop k)) := by
    show _ = _
    rw [ins_cells, hL2, hL1, hcs1]
    exact ins_grow _ rfl hSl hk (by omega) hRt
  have HFL : Hid ((ps.take k ++ [x] ++ ps.drop k).length = ps.length + 1) := by
    show _ = _
    simp
    omega
  have hone : ∀ u ∈ cs1, u.oneCell' = true := fun u hu => rowP_one ps u (by rw [hcs1] at hu; exact List.mem_of_mem_drop hu)
  obtain ⟨W1, hW1⟩ : ∃ W1, W1 = w.drew.alloc (.cells ROW 48) := ⟨_, rfl⟩
  have hh0 : W1.heap[N]? = some (.cells ROW 48 (0, 0)) := by rw [hW1, hN]; exact heap_alloc_new w.drew _
  have hv0 : W1.heap[vb]? = some (.cells #[.int .i64 x.2.u, .int .i64 x.2.s, .int .i64 x.2.c, rpV x] 48 (0, 0)) := by
    rw [hW1]
    exact (((Below.refl w.drew.heap.size w.drew).alloc (Nat.le_refl _) (.cells ROW 48)).block vb hvl).trans hv
  have hb0 : Below w.heap.size w W1 := by rw [hW1]; exact (Below.refl w.heap.size w).drew.alloc (Nat.le_refl _) _
  have hmin1 : Nat.min 1 (ps.length + 1 - k) = 1 := by
    show min _ _ = _
    omega
  have hmin2 : Nat.min (ps.length - k) (ps.length + 1 - (k + 1)) = ps.length - k := by
    show min _ _ = _
    omega
  have hqe : ps.length + 1 - (k + 1) = ps.length - k := by omega
  obtain ⟨q, hq⟩ : ∃ q : Nat, ps.length - k = q := ⟨_, rfl⟩
  have hcpA : ∀ ty dc, (Builtin.copy_ #[24, 24] ty #[.slice (some ⟨N, k * 4, none⟩) (ps.length + 1 - k) dc, .slice (some ⟨vb, 0, none⟩) 1 1]).run Tryz.prog W1 = .ok (goInt 1) (W1.setRow N L1.toArray) := fun ty dc => by
    have := run_copy_k (P := Tryz.prog) W1 24 24 ty 48 4 N (k * 4) (ps.length + 1 - k) dc ⟨vb, 0, none⟩ 1 1 ROW _ (rpCells x) Tryz.underlying24 Tryz.sizePl4 hh0 (by rw [hmin1]; rfl)
      (fun j u hj => by rw [Addr.add_lit, Nat.zero_add, cell_of_row _ vb j _ _ (0, 0) hv0]; simpa [rpCells] using hj) (by simp [hRs, rpCells]; omega) (rp_one x)
    rw [hmin1, ← hL1] at this
    exact this
  have hh1 : (W1.setRow N L1.toArray).heap[N]? = some (.cells L1.toArray 48 (0, 0)) := setRow_heap W1 N ROW _ _ _ hh0
  have hb1 : Below w.heap.size w (W1.setRow N L1.toArray) := below_setRow hb0 (by omega)
  have hcpB : ∀ ty dc sc, (Builtin.copy_ #[24, 24] ty #[.slice (some ⟨N, (k + 1) * 4, none⟩) (ps.length - k) dc, .slice (some ⟨g, k * 4, none⟩) (ps.length - k) sc]).run Tryz.prog (W1.setRow N L1.toArray).drew = .ok (goInt q) ((W1.setRow N L1.toArray).drew.setRow N L2.toArray) := fun ty dc sc => by
    have := run_copy_k (P := Tryz.prog) (W1.setRow N L1.toArray).drew 24 24 ty 48 4 N ((k + 1) * 4) (ps.length + 1 - (k + 1)) dc ⟨g, k * 4, none⟩ (ps.length - k) sc L1.toArray _ cs1 Tryz.underlying24 Tryz.sizePl4 hh1 (by rw [hd, hmin2])
      (fun j u hj => by
        rw [Addr.add_lit]
        refine (hb1.cell (p := ⟨g, k * 4 + j, none⟩) hgl).trans ?_
        rw [hcs1, List.getElem?_drop] at hj
        exact hat _ _ hj) (by simp [hl1, hd]; omega) hone
    rw [hmin2, List.toList_toArray, ← hL2, hqe, hq] at this
    rw [hq]
    exact this
  have HEND : Hid (RetMp base 48 (.slice (some ⟨g, 0, none⟩) ps.length c) (ps.take k ++ [x] ++ ps.drop k) w (.returned (.slice (some ⟨N, 0, none⟩) (ps.length + 1) G)) ((W1.setRow N L1.toArray).drew.setRow N L2.toArray)) := by
    refine ⟨_, rfl, ⟨by rw [rowP_length], .inr ⟨N, G, L2.toArray, by rw [HFL.out], by omega, setRow_heap _ N L1.toArray _ _ _ hh1, by rw [HFL.out]; exact hGn, hGm, by simpa using hl2, by rw [HFL.out, List.toList_toArray]; exact HFIN.out⟩⟩,
      Apart.of_below (below_setRow hb1.drew (by omega)), fun x hx => .inr (by cases hx; show w.heap.size ≤ N; omega)⟩
  rw [← hN, ← hW1] at hrz
  generalize hnn : ps.length = n at *
  clear hq hqe HFIN HFL hone hmin1 hmin2 hd hl1 hl2 hRl hSl hcs1 hL1 hL2 hh0 hh1 hv0 hb0 hb1 hold hat hRt hRs hROW hG hnn hv hW1 hN hvl hgl
  have hz1 : ¬ ((k : Int) = (n : Int)) := by omega
  have hz3 : (c : Int) < (n : Int) + 1 := by omega
  have mixed : Tryz.prog.follows .mixedOrders = true := by kernel_rfl
  have hw1 : IntKind.i64.wrap ((k : Int) + 1) = (k : Int) + 1 := by rw [IntKind.wrap_i64]; omega
  have hw2 : IntKind.i64.wrap ((n : Int) + 1) = (n : Int) + 1 := by rw [IntKind.wrap_i64]; omega
  have hcz : G ≤ 9223372036854775807 := by unfold maxLen at hGm; omega
  have hb1 : (0 : Int) ≤ (k : Int) + 1 := by omega
  have hin : k ≤ n := by omega
  have htn : ((k : Int) + 1).toNat = k + 1 := by omega
  have hb2 : ¬ (G = k + 1) := by omega
  have hb4 : ¬ (G = k) := by omega
  have hb6 : ¬ (c = k) := by omega
  have hb5 : (k : Int) ≤ (n : Int) + 1 := by omega
  have hb7 : (k : Int) ≤ (n : Int) := by omega
  go_enter Tryz.func130, Tryz.ntmps130
  go_wp2_with (first
    | (at_builtin; refine Lib.wpList_append_run _ rfl _ _ _ _ rfl _ _ rfl rfl _ _ (hrz _) ?_)
    | (at_builtin; refine wpList_copy_runI _ rfl _ _ 24 24 rfl _ _ rfl rfl (hcpA _ _) ?_))
  go_region_law_o (refine step_copy_runI rfl _ _ 24 24 rfl _ _ (by simp [Act.eval, Act.put]) (by simp [Act.eval, Act.put]) (hcpB _ _ _) ?_)
  go_wp2
  go_ret
  exact HEND.out

/-- slices.Insert of one, wherever it goes. -/
theorem insert_any (base : Nat) (v : Value) (ps : List Rp) (k : Nat) (x : Rp) (vb : Nat) (w : World) (h : w.ownsRow base 48 4 v ps.length (rowP ps)) (hk : k ≤ ps.length) (hl : ps.length ≤ 1000) (hbase : base ≤ w.heap.size)
    (hv : w.heap[vb]? = some (.cells #[.int .i64 x.2.u, .int .i64 x.2.s, .int .i64 x.2.c, rpV x] 48 (0, 0))) (hne : v.ownBlock ≠ some vb) :
    Calls Tryz.prog 130 #[v, .int .i64 k, .slice (some ⟨vb, 0, none⟩) 1 1] w (RetMp base 48 v (ps.take k ++ [x] ++ ps.drop k) w) := by
  by_cases hkn : k = ps.length
  · subst hkn
    have := insert_end base v ps x vb w h hl hbase hv
    rwa [show ps.take ps.length ++ [x] ++ ps.drop ps.length = ps ++ [x] by simp]
  · obtain ⟨h1, h2⟩ := h
    rcases h2 with ⟨_, h0⟩ | ⟨g, cap, cur, rfl, hg, hh, hn, hc, hs, ht⟩
    · omega
    · have hgl : g < w.heap.size := (Array.getElem?_eq_some_iff.1 hh).1
      by_cases hr : ps.length + 1 ≤ cap
      · exact insert_shift base g cap cur ps k x vb w hh hg (by omega) hr hc hs ht hl hbase hv (fun e => hne (by rw [e]; rfl))
      · refine insert_grow base g cap ps k x vb w (fun j u hj => ?_) (by omega) hn (by omega) hl hbase hgl hv
        rw [cell_of_row w g j _ _ (0, 0) hh, ← Array.getElem?_toList]
        rw [← ht] at hj
        by_cases hjn : j < ps.length * 4
        · rwa [List.getElem?_take_of_lt hjn] at hj
        · rw [List.getElem?_take_eq_none (by omega)] at hj; cases hj
end Go.Proofs.YtpfpojehcjmfnaaGreat
