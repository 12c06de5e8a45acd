/-
  slices.IndexFunc over members; where a member of an id stands; who is behind an id.
  Conditions: the predicate, whatever the world, answers so, and leaves all that was.
-/
import Derived.Test.YtanchjcifhbllaaMembers
import Derived.Shelf.RegionOpenPlain
set_option linter.unusedVariables false
namespace Go.Proofs.Ytanchjcifhbllaa
open Go.RowKit

/-- A predicate that may make memory. -/
def PredM (g : Nat) (lb : Array Value) (p : Mb → Bool) (w : World) : Prop :=
  ∀ (W : World) (x : Mb), Below w.heap.size w W → Calls Try.prog g (#[mbA x] ++ lb) W (RetB (.bool (p x)) W)
def idxO (o : Option Nat) : Int := match o with | none => -1 | some k => (k : Int)
theorem idx_none {p : Mb → Bool} {l : List Mb} (h : ∀ (j : Nat) (t : Mb), j < l.length → l[j]? = some t → p t = false) : l.findIdx? p = none := by
  rw [List.findIdx?_eq_none_iff]
  intro x hx
  obtain ⟨j, hj, e⟩ := List.getElem_of_mem hx
  exact h j x hj (by rw [List.getElem?_eq_getElem hj, e])
theorem idx_some {p : Mb → Bool} {l : List Mb} {k : Nat} {x : Mb} (hk : l[k]? = some x) (hx : p x = true) (h : ∀ (j : Nat) (t : Mb), j < k → l[j]? = some t → p t = false) : l.findIdx? p = some k := by
  obtain ⟨hlt, e⟩ := List.getElem?_eq_some_iff.1 hk
  rw [List.findIdx?_eq_some_iff_getElem]
  refine ⟨hlt, by rw [e]; exact hx, fun j hj => ?_⟩
  rw [h j l[j] hj (List.getElem?_eq_getElem (by omega))]
  decide

set_option maxRecDepth 100000 in
set_option maxHeartbeats 2000000 in
theorem index_any (g : Nat) (lb : Array Value) (eg : ∀ args w, (callFunc g args).run Try.prog w = .ok (.enter g args) w) (p : Mb → Bool) (v : Value) (l : List Mb) (w : World) (hp : PredM g lb p w) (h : RowM w v l) (hl : l.length ≤ 1000) :
    Calls Try.prog 55 #[v, .func (.func g) #[] lb] w (RetB (.int .i64 (idxO (l.findIdx? p))) w) := by
  obtain ⟨A, c, rfl⟩ := own_form h
  have HO := Lib.hid h
  have HP := Lib.hid hp
  generalize hn : l.length = n at *
  have HN := Lib.hid hn
  clear h hp hn
  go_enter Try.func55, Try.ntmps55
  go_wp2
  go_loopg [5, 8] n (fun gg _ s8 wr => ∃ kk : Nat, kk ≤ n ∧ gg = n - kk ∧ s8 = .int .i64 kk ∧ Below w.heap.size w wr ∧ ∀ (j : Nat) (t : Mb), j < kk → l[j]? = some t → p t = false)
  case atStart => exact ⟨0, Nat.zero_le _, by omega, rfl, Below.refl _ w, fun j t hj => absurd hj (Nat.not_lt_zero _)⟩
  case round =>
    obtain ⟨k, hk, hg, rfl, hbw, hall⟩ := hrel
    have HB := Lib.hid hbw
    have HALL := Lib.hid hall
    have HG := Lib.hid hg
    clear hbw hall hg
    by_cases hlt : k < n
    · have hltz : (k : Int) < (n : Int) := by omega
      obtain ⟨b, cap, hA, _, hbl, _, _, hcell, _⟩ := own_lies HO.out (by rw [HN.out]; omega)
      have e1 : A = some ⟨b, 0, none⟩ := by injection hA
      clear hA
      subst e1
      obtain ⟨y, hy⟩ := ex_at (xs := l) (k := k) (by rw [HN.out]; exact hlt)
      obtain ⟨hc1', hc2', hc3', hc4'⟩ := (hcell k y hy).keep (HB.out.block b hbl)
      have hcall := HP.out wr y HB.out
      have HY := Lib.hid hy
      clear hcell hy
      unfold mbA at hcall
      cases hq : p y with
      | true =>
        rw [hq] at hcall
        have HC := Lib.hid hcall
        have HQ := Lib.hid hq
        clear hcall hq
        obtain ⟨y1, y2, y3, y4⟩ := y
        simp only at hc1' hc2' hc3' hc4'
        go_wp2_with (go_at_fn g; refine HC.out.mono ?_; rintro e w' ⟨rfl, hb'⟩)
        go_ret
        refine ⟨?_, HB.out.trans (hb'.mono HB.out.size)⟩
        rw [idx_some HY.out HQ.out HALL.out]
        rfl
      | false =>
        rw [hq] at hcall
        have HC := Lib.hid hcall
        have HQ := Lib.hid hq
        clear hcall hq
        obtain ⟨y1, y2, y3, y4⟩ := y
        simp only at hc1' hc2' hc3' hc4'
        go_wp2_with (go_at_fn g; refine HC.out.mono ?_; rintro e w' ⟨rfl, hb'⟩)
        go_roundg (n - (k + 1))
        case measure => have := HG.out; omega
        case rel =>
          refine ⟨k + 1, by omega, rfl, by go_num, HB.out.trans (hb'.mono HB.out.size), fun j t hj ht => ?_⟩
          by_cases e : j = k
          · subst e
            have := HY.out
            rw [this] at ht
            rw [← Option.some.inj ht]
            exact HQ.out
          · exact HALL.out j t (by omega) ht
    · have hltz : ¬ (k : Int) < (n : Int) := by omega
      go_wp2
      go_ret
      refine ⟨?_, HB.out⟩
      rw [idx_none (fun j t hj ht => HALL.out j t (by have := HN.out; omega) ht)]
      rfl

theorem mb_box (w : World) (B : Nat) (hB : w.heap.size = B) (m : Mb) : (w.alloc (.cells #[.int .i64 m.id, .int .i64 m.w, .bool m.on, .int .u64 m.n] 76)).cell? ⟨B, 0, none⟩ = some (.int .i64 m.id) := by
  subst hB
  exact World.cell?_alloc_new (w := w) _ _ 0

/-- The predicate of find: is it the id that the box holds? -/
theorem isId_pred (w : World) (c : Nat) (id : Int) (hc : w.cell? ⟨c, 0, none⟩ = some (.int .i64 id)) : PredM 56 #[.pointer (some ⟨c, 0, none⟩)] (fun m => (m.id : Int) == id) w := by
  intro W x hb
  have hlt : c < w.heap.size := block_lt_of_cell hc
  have hc' := (hb.cell (p := ⟨c, 0, none⟩) hlt).trans hc
  have hlt2 : c < W.heap.size := Nat.lt_of_lt_of_le hlt hb.size
  clear hlt
  clear hb hc
  obtain ⟨x1, x2, x3, x4⟩ := x
  show Calls Try.prog 56 #[.agg #[.int .i64 x1, .int .i64 x2, .bool x4, .int .u64 x3], .pointer (some ⟨c, 0, none⟩)] W (RetB (.bool ((x1 : Int) == id)) W)
  go_enter Try.func56, Try.ntmps56
  go_wp2
  go_ret
  exact ⟨rfl, (Below.refl _ W).alloc (Nat.le_refl _) _⟩
/-- The predicate of insert: is it behind the id of the member in the box? -/
theorem isBig_pred (w : World) (c : Nat) (m : Mb) (hc : w.cell? ⟨c, 0, none⟩ = some (.int .i64 m.id)) : PredM 59 #[.pointer (some ⟨c, 0, none⟩)] (fun x => decide (m.id < x.id)) w := by
  intro W x hb
  have hlt : c < w.heap.size := block_lt_of_cell hc
  have hc' := (hb.cell (p := ⟨c, 0, none⟩) hlt).trans hc
  have hlt2 : c < W.heap.size := Nat.lt_of_lt_of_le hlt hb.size
  clear hlt
  clear hb hc
  obtain ⟨x1, x2, x3, x4⟩ := x
  obtain ⟨m1, m2, m3, m4⟩ := m
  simp only at hc'
  show Calls Try.prog 59 #[.agg #[.int .i64 x1, .int .i64 x2, .bool x4, .int .u64 x3], .pointer (some ⟨c, 0, none⟩)] W (RetB (.bool (decide (m1 < x1))) W)
  go_enter Try.func59, Try.ntmps59
  go_wp2
  go_ret
  exact ⟨by simp, (Below.refl _ W).alloc (Nat.le_refl _) _⟩

theorem isMade_nil (W : World) : Calls Try.prog 31 #[.pointer none] W (Ret (.bool false) W) := by
  go_enter Try.func31, Try.ntmps31
  go_wp2
  go_ret
  exact ⟨rfl, rfl⟩
theorem isMade_bare (W : World) (rb : Nat) (h : Bare W rb) : Calls Try.prog 31 #[.pointer (some ⟨rb, 0, none⟩)] W (Ret (.bool false) W) := by
  have c0 := h.heads
  clear h
  go_enter Try.func31, Try.ntmps31
  go_wp2
  go_ret
  exact ⟨rfl, rfl⟩
theorem isMade_any (W : World) (rb : Nat) (mv : Value) (s : Rg) (h : RingAt W rb mv s) (hl : 0 < s.lim) : Calls Try.prog 31 #[.pointer (some ⟨rb, 0, none⟩)] W (Ret (.bool true) W) := by
  obtain ⟨c0, _⟩ := h.heads
  have hz : (0 : Int) < (s.lim : Int) := by omega
  generalize s.lim = lim at *
  clear h
  go_enter Try.func31, Try.ntmps31
  go_wp2
  go_ret
  exact ⟨rfl, rfl⟩
theorem isWeight_any (w : Int) (W : World) : Calls Try.prog 36 #[.int .i64 w] W (Ret (.bool (decide (1 ≤ w ∧ w ≤ 1000))) W) := by
  by_cases h1 : 1 ≤ w
  · by_cases h2 : w ≤ 1000
    · rw [decide_eq_true (And.intro h1 h2)]
      go_enter Try.func36, Try.ntmps36
      go_wp2
      go_ret
      exact ⟨rfl, rfl⟩
    · rw [decide_eq_false (fun h => h2 h.2)]
      go_enter Try.func36, Try.ntmps36
      go_wp2
      go_ret
      exact ⟨rfl, rfl⟩
  · rw [decide_eq_false (fun h => h1 h.1)]
    go_enter Try.func36, Try.ntmps36
    go_wp2
    go_ret
    exact ⟨rfl, rfl⟩

theorem find_any (W : World) (rb : Nat) (mv : Value) (s : Rg) (id : Int) (h : RingAt W rb mv s) (hl : s.l.length ≤ 1000) :
    Calls Try.prog 37 #[.pointer (some ⟨rb, 0, none⟩), .int .i64 id] W (RetB (.int .i64 (idxO (findK s.l id))) W) := by
  obtain ⟨_, c1, _⟩ := h.heads
  have hb1 := (Below.refl W.heap.size W).alloc (Nat.le_refl _) (.cells #[.int .i64 id] 3)
  have HB1 := Lib.hid hb1
  have hcell : (W.alloc (.cells #[.int .i64 id] 3)).cell? ⟨W.heap.size, 0, none⟩ = some (.int .i64 id) := World.cell?_alloc_new (w := W) _ _ 0
  have HI := Lib.hid (index_any 56 #[.pointer (some ⟨W.heap.size, 0, none⟩)] (by intro args w; rfl) (fun m => (m.id : Int) == id) mv s.l _ (isId_pred _ _ id hcell) (h.below hb1).row hl)
  have hlt := h.lt
  clear hb1 hcell h
  go_enter Try.func37, Try.ntmps37
  go_wp2_with (go_at_call 55; refine HI.out.mono ?_; rintro e w' ⟨rfl, hb⟩)
  go_ret
  exact ⟨rfl, HB1.out.trans (hb.mono HB1.out.size)⟩
end Go.Proofs.Ytanchjcifhbllaa
