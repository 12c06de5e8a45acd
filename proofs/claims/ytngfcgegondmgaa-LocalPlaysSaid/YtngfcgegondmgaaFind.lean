/-
  slices.IndexFunc over members; where a unit stands.
  Conditions: the predicate, whatever the world, answers so, and leaves all that was.
-/
import Derived.Test.YtngfcgegondmgaaLocs
import Derived.Shelf.RegionOpenPlain
set_option linter.unusedVariables false
namespace Go.Proofs.Ytngfcgegondmgaa
open Go.RowKit

/-- A predicate that may make memory. -/
def PredM (g : Nat) (lb : Array Value) (p : Lm → Bool) (w : World) : Prop :=
  ∀ (W : World) (x : Lm), Below w.heap.size w W → Calls Try.prog g (#[mbA x] ++ lb) W (RetB (.bool (p x)) W)
def idxO (o : Option Nat) : Int := match o with | none => -1 | some k => (k : Int)
theorem idx_none {p : Lm → Bool} {l : List Lm} (h : ∀ (j : Nat) (t : Lm), j < l.length → l[j]? = some t → p t = false) : l.findIdx? p = none := by
  rw [List.findIdx?_eq_none_iff]
  intro x hx
  obtain ⟨j, hj, e⟩ := List.getElem_of_mem hx
  exact h j x hj (by rw [List.getElem?_eq_getElem hj, e])
theorem idx_some {p : Lm → Bool} {l : List Lm} {k : Nat} {x : Lm} (hk : l[k]? = some x) (hx : p x = true) (h : ∀ (j : Nat) (t : Lm), j < k → l[j]? = some t → p t = false) : l.findIdx? p = some k := by
  obtain ⟨hlt, e⟩ := List.getElem?_eq_some_iff.1 hk
  rw [List.findIdx?_eq_some_iff_getElem]
  refine ⟨hlt, by rw [e]; exact hx, fun j hj => ?_⟩
  rw [h j l[j] hj (List.getElem?_eq_getElem (by omega))]
  decide

set_option maxRecDepth 100000 in
set_option maxHeartbeats 2000000 in
theorem indexM_any (g : Nat) (lb : Array Value) (eg : ∀ args w, (callFunc g args).run Try.prog w = .ok (.enter g args) w) (p : Lm → Bool) (v : Value) (l : List Lm) (w : World) (hp : PredM g lb p w) (h : RowM w v l) (hl : l.length ≤ 1000) :
    Calls Try.prog 45 #[v, .func (.func g) #[] lb] w (RetB (.int .i64 (idxO (l.findIdx? p))) w) := by
  obtain ⟨A, c, rfl⟩ := own_form h
  have HO := Lib.hid h
  have HP := Lib.hid hp
  generalize hn : l.length = n at *
  have HN := Lib.hid hn
  clear h hp hn
  go_enter Try.func45, Try.ntmps45
  go_wp2
  go_loopg [5, 8] n (fun gg _ s8 wr => ∃ kk : Nat, kk ≤ n ∧ gg = n - kk ∧ s8 = .int .i64 kk ∧ Below w.heap.size w wr ∧ ∀ (j : Nat) (t : Lm), j < kk → l[j]? = some t → p t = false)
  case atStart => exact ⟨0, Nat.zero_le _, by omega, rfl, Below.refl _ w, fun j t hj => absurd hj (Nat.not_lt_zero _)⟩
  case round =>
    obtain ⟨k, hk, hg, rfl, hbw, hall⟩ := hrel
    have HB := Lib.hid hbw
    have HALL := Lib.hid hall
    have HG := Lib.hid hg
    clear hbw hall hg
    by_cases hlt : k < n
    · have hltz : (k : Int) < (n : Int) := by omega
      obtain ⟨b, cap, hA, _, hbl, _, _, hcell, _⟩ := own3_lies HO.out (by rw [HN.out]; omega)
      have e1 : A = some ⟨b, 0, none⟩ := by injection hA
      clear hA
      subst e1
      obtain ⟨y, hy⟩ := ex_at (xs := l) (k := k) (by rw [HN.out]; exact hlt)
      obtain ⟨hc1', hc2', hc3'⟩ := (hcell k y hy).keep (HB.out.block b hbl)
      have hcall := HP.out wr y HB.out
      have HY := Lib.hid hy
      clear hcell hy
      unfold mbA at hcall
      cases hq : p y with
      | true =>
        rw [hq] at hcall
        have HC := Lib.hid hcall
        have HQ := Lib.hid hq
        clear hcall hq
        obtain ⟨y1, y2, y3⟩ := y
        simp only at hc1' hc2' hc3'
        go_wp2_with (go_at_fn g; refine HC.out.mono ?_; rintro e w' ⟨rfl, hb'⟩)
        go_ret
        refine ⟨?_, HB.out.trans (hb'.mono HB.out.size)⟩
        rw [idx_some HY.out HQ.out HALL.out]
        rfl
      | false =>
        rw [hq] at hcall
        have HC := Lib.hid hcall
        have HQ := Lib.hid hq
        clear hcall hq
        obtain ⟨y1, y2, y3⟩ := y
        simp only at hc1' hc2' hc3'
        go_wp2_with (go_at_fn g; refine HC.out.mono ?_; rintro e w' ⟨rfl, hb'⟩)
        go_roundg (n - (k + 1))
        case measure => have := HG.out; omega
        case rel =>
          refine ⟨k + 1, by omega, rfl, by go_num, HB.out.trans (hb'.mono HB.out.size), fun j t hj ht => ?_⟩
          by_cases e : j = k
          · subst e
            have := HY.out
            rw [this] at ht
            rw [← Option.some.inj ht]
            exact HQ.out
          · exact HALL.out j t (by omega) ht
    · have hltz : ¬ (k : Int) < (n : Int) := by omega
      go_wp2
      go_ret
      refine ⟨?_, HB.out⟩
      rw [idx_none (fun j t hj ht => HALL.out j t (by have := HN.out; omega) ht)]
      rfl

/-- The predicate of find: is it the unit that the box holds? -/
theorem isUnit_pred (w : World) (c : Nat) (u : Int) (hc : w.cell? ⟨c, 0, none⟩ = some (.int .i64 u)) : PredM 46 #[.pointer (some ⟨c, 0, none⟩)] (fun m => decide ((m.u : Int) = u)) w := by
  intro W x hb
  have hlt : c < w.heap.size := block_lt_of_cell hc
  have hc' := (hb.cell (p := ⟨c, 0, none⟩) hlt).trans hc
  have hlt2 : c < W.heap.size := Nat.lt_of_lt_of_le hlt hb.size
  clear hlt
  clear hb hc
  obtain ⟨x1, x2, x3⟩ := x
  show Calls Try.prog 46 #[.agg #[.int .i64 x1, .int .i64 x2, .int .i64 x3], .pointer (some ⟨c, 0, none⟩)] W (RetB (.bool (decide ((x1 : Int) = u))) W)
  go_enter Try.func46, Try.ntmps46
  go_wp2
  go_ret
  exact ⟨by by_cases e : (x1 : Int) = u <;> simp [e], (Below.refl _ W).alloc (Nat.le_refl _) _⟩

theorem find_any (W : World) (rb : Nat) (mv : Value) (l : List Lm) (u : Int) (h : LocAt W rb mv l) (hl : l.length ≤ 1000) :
    Calls Try.prog 32 #[.pointer (some ⟨rb, 0, none⟩), .int .i64 u] W (RetB (.int .i64 (idxO (findT u l))) W) := by
  obtain ⟨c1, _⟩ := h.heads
  have hb1 := (Below.refl W.heap.size W).alloc (Nat.le_refl _) (.cells #[.int .i64 u] 3)
  have HB1 := Lib.hid hb1
  have hcell : (W.alloc (.cells #[.int .i64 u] 3)).cell? ⟨W.heap.size, 0, none⟩ = some (.int .i64 u) := World.cell?_alloc_new (w := W) _ _ 0
  have HI := Lib.hid (indexM_any 46 #[.pointer (some ⟨W.heap.size, 0, none⟩)] (by intro args w; rfl) (fun m => decide ((m.u : Int) = u)) mv l _ (isUnit_pred _ _ u hcell) (h.below hb1).row hl)
  have hlt := h.lt
  clear hb1 hcell h
  unfold findT
  go_enter Try.func32, Try.ntmps32
  go_wp2_with (go_at_call 45; refine HI.out.mono ?_; rintro e w' ⟨rfl, hb⟩)
  go_ret
  exact ⟨rfl, HB1.out.trans (hb.mono HB1.out.size)⟩
theorem find_nil (W : World) (u : Int) : Calls Try.prog 32 #[.pointer none, .int .i64 u] W (RetB (.int .i64 (-1)) W) := by
  go_enter Try.func32, Try.ntmps32
  go_wp2
  go_ret
  exact ⟨rfl, (Below.refl _ W).alloc (Nat.le_refl _) _⟩
end Go.Proofs.Ytngfcgegondmgaa
