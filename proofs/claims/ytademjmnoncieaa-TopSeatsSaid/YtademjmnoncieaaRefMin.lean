/-
  The document's ahead, Min, Key.
  Conditions: what the slices read as; the numbers are words.
-/
import Derived.Test.YtademjmnoncieaaRefHeap
set_option linter.unusedVariables false
namespace Go.Proofs.Ytademjmnoncieaa
open Go.RowKit

theorem aheadB_cmp (nx dx x ny dy y : Nat) : (cmpN (nx * dy) (ny * dx) = -1 ∧ aheadB nx dx x ny dy y = true) ∨ (cmpN (nx * dy) (ny * dx) = 1 ∧ aheadB nx dx x ny dy y = false) ∨ (cmpN (nx * dy) (ny * dx) = 0 ∧ aheadB nx dx x ny dy y = decide (x < y)) := by
  unfold cmpN aheadB
  by_cases e1 : nx * dy < ny * dx
  · left; simp [e1]
  · by_cases e2 : nx * dy = ny * dx
    · right; right; simp [e2]
    · right; left; simp [e1, e2]

set_option maxRecDepth 100000 in
set_option maxHeartbeats 4000000 in
theorem refAhead_any (x nx dx y ny dy : Nat) (b1 : nx < 18446744073709551616) (b2 : dx < 18446744073709551616) (b3 : ny < 18446744073709551616) (b4 : dy < 18446744073709551616) (w : World) :
    Calls Try.prog 27 #[.agg #[.int .i64 x, .int .u64 nx, .int .u64 dx], .agg #[.int .i64 y, .int .u64 ny, .int .u64 dy]] w (RetB6 (.bool (aheadB nx dx x ny dy y)) w) := by
  have HC0 := fun w => refCompare_any nx dx ny dy b1 b2 b3 b4 w
  have HR := aheadB_cmp nx dx x ny dy y
  generalize cmpN (nx * dy) (ny * dx) = c at *
  generalize aheadB nx dx x ny dy y = r at *
  have HC := Lib.hid HC0
  have HR := Lib.hid HR
  clear HC0 b1 b2 b3 b4
  go_enter Try.func27, Try.ntmps27
  go_wp2_with fail
  refine (HC.out _).mono ?_
  rintro e w1 ⟨rfl, hb⟩
  have hc0 := (hb.cell (p := ⟨w.heap.size, 0, none⟩) (by simp; omega)).trans (World.cell?_alloc2_first _ _ _ 0)
  have hc1 := (hb.cell (p := ⟨w.heap.size + 1, 0, none⟩) (by simp)).trans (World.cell?_alloc2_new _ _ _ 0)
  simp only [List.getElem?_toArray, List.getElem?_cons_zero] at hc0 hc1
  have HB := Lib.hid ((((Below.refl w.heap.size w).alloc (Nat.le_refl _) _).alloc (by simp) _).trans (hb.mono (by simp; omega)))
  clear hb
  rcases HR.out with ⟨rfl, rfl⟩ | ⟨rfl, rfl⟩ | ⟨rfl, rfl⟩
  all_goals
    go_wp2
    go_ret
    exact ⟨rfl, HB.out⟩

/-- A variable that holds an item. -/
def ItVar (W : World) (b : Nat) (it : It) : Prop := W.heap[b]? = some (.cells #[.int .i64 it.1, .int .u64 it.2.1, .int .u64 it.2.2] 34 (0, 0))
theorem ItVar.cells {W : World} {b : Nat} {it : It} (h : ItVar W b it) : W.cell? ⟨b, 0, none⟩ = some (.int .i64 it.1) ∧ W.cell? ⟨b, 1, none⟩ = some (.int .u64 it.2.1) ∧ W.cell? ⟨b, 2, none⟩ = some (.int .u64 it.2.2) ∧ (∀ j, W.frozen? ⟨b, j, none⟩ = false) := by
  unfold ItVar at h
  refine ⟨?_, ?_, ?_, fun j => ?_⟩ <;> simp [World.cell?, World.frozen?, h]
theorem ItVar.set {W : World} {b : Nat} {it : It} (h : ItVar W b it) (x nu de : Nat) : ItVar (((W.setCell ⟨b, 0, none⟩ (.int .i64 x)).setCell ⟨b, 1, none⟩ (.int .u64 nu)).setCell ⟨b, 2, none⟩ (.int .u64 de)) b (x, nu, de) :=
  heap_setCell_at _ _ _ _ _ _ _ (heap_setCell_at _ _ _ _ _ _ _ (heap_setCell_at _ _ _ _ _ _ _ h))

theorem minT_snoc {its : List It} {x best : It} (h : minT its = some best) : minT (its ++ [x]) = some (bestI best x) := by
  cases its with
  | nil => cases h
  | cons i r =>
    simp only [minT, List.cons_append, List.foldl_append, List.foldl_cons, List.foldl_nil] at h ⊢
    injection h with h
    rw [h]
theorem GoodI.at {its : List It} (h : GoodI its) {k : Nat} {it : It} (hk : its[k]? = some it) : it.2.1 < 18446744073709551616 ∧ it.2.2 < 18446744073709551616 ∧ it.1 < 1024 := h it (List.mem_of_getElem? hk)

def MinRel (its : List It) (w : World) (g : Nat) (s5 : Value) (wr : World) : Prop :=
  ∃ (k : Nat) (it : It), 1 ≤ k ∧ k ≤ its.length ∧ g = its.length - k ∧ s5 = .int .i64 k ∧ Below w.heap.size w wr ∧ ItVar wr w.heap.size it ∧ minT (its.take k) = some it ∧
    (it.2.1 < 18446744073709551616 ∧ it.2.2 < 18446744073709551616)

set_option maxRecDepth 100000 in
set_option maxHeartbeats 8000000 in
theorem refMin_any (its : List It) (v : Value) (w : World) (h : ItemsAt w v its) (hgood : GoodI its) :
    Calls Try.prog 13 #[v] w (RetB6 (pairV (minP its)) w) := by
  obtain ⟨A, c, rfl, h2, h3, h4, h5⟩ := h
  rcases its with _ | ⟨i, r⟩
  · clear h5
    simp only [List.length_nil] at *
    go_enter Try.func13, Try.ntmps13
    go_wp2
    go_ret2
    exact ⟨rfl, Below.refl _ _⟩
  · obtain ⟨b, off, hA, hbl, hcell⟩ := h5 (by simp)
    subst hA
    obtain ⟨d0, d1, d2⟩ := hcell 0 i rfl
    rw [Nat.zero_mul, Nat.add_zero] at d0 d1 d2
    have HG := Lib.hid hgood
    have HCELL := Lib.hid hcell
    have hgi := hgood i (by simp)
    have HSTART := Lib.hid (show minT ((i :: r).take 1) = some i from rfl)
    generalize hits : i :: r = its at *
    have HEND := Lib.hid (show ∀ it, minT its = some it → pairV (minP its) = .tuple #[.int .i64 (it.1 : Nat), .bool true] from fun it he => by unfold minP; rw [he]; rfl)
    obtain ⟨n, hn⟩ : ∃ n, its.length = n := ⟨_, rfl⟩
    have HN := Lib.hid hn
    have hn0 : 0 < n := by rw [← hn, ← hits]; simp
    rw [hn] at h2 h3 ⊢
    obtain ⟨i1, i2, i3⟩ := i
    simp only at d0 d1 d2 hgi
    have z1 : (0 : Int) < (n : Int) := by omega
    have z2 : ((n : Int) == 0) = false := by simp; omega
    have z3 : ¬ (n : Int) = 0 := by omega
    clear hcell hgood hn hits
    go_enter Try.func13, Try.ntmps13
    go_wp2_with fail
    go_loopg [5] (n - 1) (fun g s5 wr => MinRel its w g s5 wr)
    case atStart =>
      exact ⟨1, (i1, i2, i3), Nat.le_refl _, by rw [HN.out]; omega, by rw [HN.out], rfl, (Below.refl _ _).alloc (Nat.le_refl _) _, heap_alloc_new w _, HSTART.out, hgi.1, hgi.2.1⟩
    case round =>
      obtain ⟨k, it, hk1, hk, hg, rfl, hbw, hvar, hmin, hb2⟩ := hrel
      rw [HN.out] at hk hg
      have HGG := Lib.hid hg
      have HB := Lib.hid hbw
      have HV := Lib.hid hvar
      have HM := Lib.hid hmin
      have hsz := hbw.size
      have hvl : w.heap.size < wr.heap.size := heap_lt hvar
      obtain ⟨v0, v1, v2, vf⟩ := hvar.cells
      have vf0 := vf 0
      have vf1 := vf 1
      have vf2 := vf 2
      clear hg hbw hvar hmin d0 d1 d2 h5 vf HSTART hgi
      obtain ⟨j1, j2, j3⟩ := it
      simp only at v0 v1 v2 hb2
      by_cases hlt : k < n
      · have z4 : (k : Int) < (n : Int) := by omega
        obtain ⟨y, hy⟩ := ex_at6 (xs := its) (k := k) (by rw [HN.out]; exact hlt)
        obtain ⟨c1, c2, c3⟩ := HCELL.out k y hy
        have hgy := HG.out.at hy
        have HT := Lib.hid (take_snoc hy)
        obtain ⟨y1, y2, y3⟩ := y
        simp only at c1 c2 c3 hgy
        have hc1 := (HB.out.cell (p := ⟨b, off + k * 3, none⟩) hbl).trans c1
        have hc2 := (HB.out.cell (p := ⟨b, off + k * 3 + 1, none⟩) hbl).trans c2
        have hc3 := (HB.out.cell (p := ⟨b, off + k * 3 + 2, none⟩) hbl).trans c3
        have HAH := Lib.hid (fun W => refAhead_any y1 y2 y3 j1 j2 j3 hgy.1 hgy.2.1 hb2.1 hb2.2 W)
        have HSN := Lib.hid (minT_snoc (x := (y1, y2, y3)) HM.out)
        have HBE := Lib.hid (show bestI (j1, j2, j3) (y1, y2, y3) = if aheadB y2 y3 y1 j2 j3 j1 = true then (y1, y2, y3) else (j1, j2, j3) from rfl)
        have HGY := Lib.hid hgy
        have HB2 := Lib.hid hb2
        have hne : w.heap.size ≠ b := by omega
        have hne' : b ≠ w.heap.size := by omega
        have hbr : b < wr.heap.size := by omega
        generalize aheadB y2 y3 y1 j2 j3 j1 = rr at *
        clear c1 c2 c3 hy hgy hb2
        cases rr with
        | false =>
          go_wp2_with fail
          go_region_held3 (fun w' => w'.cell? ⟨b, off + k * 3, none⟩ = some (.int .i64 y1) ∧ w'.cell? ⟨b, off + k * 3 + 1, none⟩ = some (.int .u64 y2) ∧ w'.cell? ⟨b, off + k * 3 + 2, none⟩ = some (.int .u64 y3) ∧
              w'.cell? ⟨w.heap.size, 0, none⟩ = some (.int .i64 j1) ∧ w'.cell? ⟨w.heap.size, 1, none⟩ = some (.int .u64 j2) ∧ w'.cell? ⟨w.heap.size, 2, none⟩ = some (.int .u64 j3))
            (first
              | go_keep
              | (go_split_ands
                 refine ⟨?_, ?_, ?_, ?_, ?_, ?_⟩ <;> (rw [hb3.cell (by simp; omega)]; assumption)))
            ((go_at_call 27; refine (HAH.out _).mono ?_; rintro e w3 ⟨rfl, hb3⟩))
          have HB3 := Lib.hid (HB.out.trans ((Below.refl w.heap.size wr).drew.trans (hb3.mono (by simp; omega))))
          have HV3 := Lib.hid (show ItVar w3 w.heap.size (j1, j2, j3) from (hb3.block w.heap.size (by simp; omega)).trans HV.out)
          clear hb3 hc1 hc2 hc3 v0 v1 v2 vf0 vf1 vf2
          go_wp2_with fail
          go_roundg (n - (k + 1))
          case measure => have := HGG.out; omega
          case rel =>
            refine ⟨k + 1, (j1, j2, j3), by omega, by rw [HN.out]; omega, by rw [HN.out], by go_num, HB3.out, HV3.out, ?_, HB2.out⟩
            rw [HT.out, HSN.out, HBE.out]
            rfl
        | true =>
          go_wp2_with fail
          go_region_held3 (fun w' => w'.cell? ⟨b, off + k * 3, none⟩ = some (.int .i64 y1) ∧ w'.cell? ⟨b, off + k * 3 + 1, none⟩ = some (.int .u64 y2) ∧ w'.cell? ⟨b, off + k * 3 + 2, none⟩ = some (.int .u64 y3) ∧
              w'.cell? ⟨w.heap.size, 0, none⟩ = some (.int .i64 j1) ∧ w'.cell? ⟨w.heap.size, 1, none⟩ = some (.int .u64 j2) ∧ w'.cell? ⟨w.heap.size, 2, none⟩ = some (.int .u64 j3))
            (first
              | go_keep
              | (go_split_ands
                 refine ⟨?_, ?_, ?_, ?_, ?_, ?_⟩ <;> (rw [hb3.cell (by simp; omega)]; assumption)))
            ((go_at_call 27; refine (HAH.out _).mono ?_; rintro e w3 ⟨rfl, hb3⟩))
          have HB3 := Lib.hid (HB.out.trans ((Below.refl w.heap.size wr).drew.trans (hb3.mono (by simp; omega))))
          have HV3 := Lib.hid (show ItVar w3 w.heap.size (j1, j2, j3) from (hb3.block w.heap.size (by simp; omega)).trans HV.out)
          have e1 := (hb3.cell (p := ⟨b, off + k * 3, none⟩) (by simp; omega)).trans hc1
          have e2 := (hb3.cell (p := ⟨b, off + k * 3 + 1, none⟩) (by simp; omega)).trans hc2
          have e3 := (hb3.cell (p := ⟨b, off + k * 3 + 2, none⟩) (by simp; omega)).trans hc3
          obtain ⟨a0, a1, a2, af⟩ := HV3.out.cells
          have af0 := af 0
          have af1 := af 1
          have af2 := af 2
          clear hb3 hc1 hc2 hc3 v0 v1 v2 vf0 vf1 vf2 af
          go_wp2_with fail
          go_roundg (n - (k + 1))
          case measure => have := HGG.out; omega
          case rel =>
            refine ⟨k + 1, (y1, y2, y3), by omega, by rw [HN.out]; omega, by rw [HN.out], by go_num, ((HB3.out.setCell (Nat.le_refl _) _).setCell (Nat.le_refl _) _).setCell (Nat.le_refl _) _, HV3.out.set y1 y2 y3, ?_, HGY.out.1, HGY.out.2.1⟩
            rw [HT.out, HSN.out, HBE.out]
            rfl
      · have hk2 : k = n := by omega
        subst hk2
        have HE := Lib.hid (HEND.out _ (by have := HM.out; rw [List.take_of_length_le (by rw [HN.out]; exact Nat.le_refl _)] at this; exact this))
        go_wp2_with fail
        go_returns
        exact ⟨by rw [HE.out]; rfl, HB.out⟩

def KeyRel (its : List It) (id : Int) (w : World) (g : Nat) (s7 : Value) (wr : World) : Prop :=
  ∃ (k : Nat), k ≤ its.length ∧ g = its.length - k ∧ s7 = .int .i64 k ∧ w = wr ∧ ∀ j it, j < k → its[j]? = some it → ¬ (it.1 : Int) = id
theorem keyF_none {its : List It} {id : Int} (h : ∀ j it, j < its.length → its[j]? = some it → ¬ (it.1 : Int) = id) : keyF its id = none := by
  unfold keyF
  rw [List.find?_eq_none]
  intro it hit
  obtain ⟨j, hj, rfl⟩ := List.getElem_of_mem hit
  simp
  exact h j _ hj (List.getElem?_eq_getElem hj)
theorem keyF_some : ∀ {its : List It} {id : Int} {k : Nat} {y : It}, its[k]? = some y → (y.1 : Int) = id → (∀ j it, j < k → its[j]? = some it → ¬ (it.1 : Int) = id) → keyF its id = some y
  | [], id, k, y, h, _, _ => by simp at h
  | i :: r, id, 0, y, h, he, _ => by
    simp at h
    subst h
    unfold keyF
    rw [List.find?_cons_of_pos (by simpa using he)]
  | i :: r, id, k + 1, y, h, he, hb => by
    have h0 := hb 0 i (by omega) rfl
    unfold keyF
    rw [List.find?_cons_of_neg (by simpa using h0)]
    exact keyF_some (its := r) (by simpa using h) he fun j it hj hi => hb (j + 1) it (by omega) (by simpa using hi)

set_option maxRecDepth 100000 in
set_option maxHeartbeats 4000000 in
theorem refKey_any (its : List It) (id : Int) (v : Value) (w : World) (h : ItemsAt w v its) :
    Calls Try.prog 17 #[v, .int .i64 id] w (RetB6 (tripV (keyP its id)) w) := by
  obtain ⟨A, c, rfl, h2, h3, h4, h5⟩ := h
  have HAT := Lib.hid h5
  clear h5
  obtain ⟨n, hn⟩ : ∃ n, its.length = n := ⟨_, rfl⟩
  have HN := Lib.hid hn
  rw [hn] at h2 h3 ⊢
  clear hn
  go_enter Try.func17, Try.ntmps17
  go_wp2_with fail
  go_loopg [7] n (fun g s7 wr => KeyRel its id w g s7 wr)
  case atStart => exact ⟨0, Nat.zero_le _, by rw [HN.out]; rfl, rfl, rfl, fun j it hj => absurd hj (Nat.not_lt_zero j)⟩
  case round =>
    obtain ⟨k, hk, hg, rfl, rfl, hno⟩ := hrel
    rw [HN.out] at hk hg
    have HG := Lib.hid hg
    have HNO := Lib.hid hno
    clear hg hno
    by_cases hlt : k < n
    · have z1 : (k : Int) < (n : Int) := by omega
      obtain ⟨b, off, hA, hbl, hcell⟩ := HAT.out (by rw [HN.out]; omega)
      subst hA
      obtain ⟨y, hy⟩ := ex_at6 (xs := its) (k := k) (by rw [HN.out]; exact hlt)
      obtain ⟨c1, c2, c3⟩ := hcell k y hy
      have HY := Lib.hid hy
      clear hcell hy
      obtain ⟨y1, y2, y3⟩ := y
      simp only at c1 c2 c3
      by_cases he : (y1 : Int) = id
      · have HK := Lib.hid (show tripV (keyP its id) = .tuple #[.int .u64 y2, .int .u64 y3, .bool true] by unfold keyP; rw [keyF_some HY.out he HNO.out]; rfl)
        have he' : ((y1 : Int) == id) = true := by simp; exact he
        clear he
        go_wp2_with fail
        go_quiet (fail)
        go_wp2_with fail
        go_returns
        exact ⟨by rw [HK.out]; rfl, below6_drewN (Below.refl _ _) _⟩
      · have he' : ((y1 : Int) == id) = false := by simp; exact he
        have HE := Lib.hid he
        go_wp2_with fail
        go_roundg (n - (k + 1))
        case measure => have := HG.out; omega
        case rel =>
          refine ⟨k + 1, by rw [HN.out]; omega, by rw [HN.out], by go_num, rfl, fun j it hj hi => ?_⟩
          by_cases hjk : j = k
          · subst hjk
            rw [HY.out] at hi
            injection hi with hi
            subst hi
            exact HE.out
          · exact HNO.out j it (by omega) hi
    · have hk2 : k = n := by omega
      subst hk2
      have HK := Lib.hid (show tripV (keyP its id) = .tuple #[.int .u64 0, .int .u64 0, .bool false] by unfold keyP; rw [keyF_none (fun j it hj hi => HNO.out j it (by rw [← HN.out]; exact hj) hi)]; rfl)
      go_wp2_with fail
      go_returns
      exact ⟨by rw [HK.out]; rfl, Below.refl _ _⟩
end Go.Proofs.Ytademjmnoncieaa
