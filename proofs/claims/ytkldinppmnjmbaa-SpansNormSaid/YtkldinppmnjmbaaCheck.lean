/-
  Check of the program: is a row right.
  Conditions: none beyond what the slice reads as.
-/
import Derived.Test.YtkldinppmnjmbaaNorm
import Derived.Shelf.SlSortCmp.QuietGrown
set_option linter.unusedVariables false
namespace Go.Proofs.Ytkldinppmnjmbaa
open Go.RowKit Go.Sort

/-- What is asked of place i. -/
def OkAt (ps : List Sp) (i : Nat) : Prop := ∀ s, ps[i]? = some s → fullS s = true ∧ ∀ k t, i = k + 1 → ps[k]? = some t → t.2 < s.1
theorem normal_iff (ps : List Sp) : NormalS ps ↔ ∀ i, OkAt ps i := by
  constructor
  · rintro ⟨h1, h2⟩ i s hs
    have hm := List.mem_of_getElem? hs
    refine ⟨by unfold fullS; simp; exact h1 s hm, fun k t hk ht => ?_⟩
    subst hk
    rw [List.pairwise_iff_getElem] at h2
    obtain ⟨hj, e1⟩ := List.getElem?_eq_some_iff.1 hs
    obtain ⟨hi, e2⟩ := List.getElem?_eq_some_iff.1 ht
    have := h2 k (k + 1) hi hj (by omega)
    rwa [e1, e2] at this
  · intro h
    have hf : ∀ s ∈ ps, s.1 < s.2 := fun s hs => by
      obtain ⟨j, hj, e⟩ := List.getElem_of_mem hs
      have := (h j s (by rw [List.getElem?_eq_getElem hj, e])).1
      unfold fullS at this
      simpa using this
    refine ⟨hf, ?_⟩
    have key : ∀ d i s t, ps[i]? = some s → ps[i + d + 1]? = some t → s.2 < t.1 := by
      intro d
      induction d with
      | zero => intro i s t hs ht; exact (h (i + 1) t ht).2 i s rfl hs
      | succ d ih =>
        intro i s t hs ht
        have hlt : i + d + 1 < ps.length := by have := (List.getElem?_eq_some_iff.1 ht).1; omega
        obtain ⟨u, hu⟩ := ex_at hlt
        have h1 := ih i s u hs hu
        have h2 := (h (i + (d + 1) + 1) t ht).2 (i + d + 1) u (by omega) hu
        have h3 := hf u (List.mem_of_getElem? hu)
        omega
    rw [List.pairwise_iff_getElem]
    intro i j hi hj hij
    exact key (j - i - 1) i _ _ (List.getElem?_eq_getElem hi) (by rw [show i + (j - i - 1) + 1 = j by omega]; exact List.getElem?_eq_getElem hj)

/-- Is a row right. -/
noncomputable def rightB (ps : List Sp) : Bool := open Classical in decide (NormalS ps)
theorem rightB_yes {ps : List Sp} (h : ∀ i, OkAt ps i) : rightB ps = true := by
  unfold rightB
  exact @decide_eq_true _ (Classical.propDecidable _) ((normal_iff ps).2 h)
theorem rightB_no {ps : List Sp} {i : Nat} (h : ¬ OkAt ps i) : rightB ps = false := by
  unfold rightB
  exact @decide_eq_false _ (Classical.propDecidable _) fun hn => h ((normal_iff ps).1 hn i)
noncomputable def errOf (b : Bool) : Int := if b then 0 else 1

theorem empty_grow (p : Sp) (W : World) : Calls Try.prog 25 #[.agg #[.int .i64 p.1, .int .i64 p.2]] W fun e w' => e = .returned (.bool (!fullS p)) ∧ ∃ q os', w' = grow (W.drewN q) os' := by
  have hd : decide (p.2 ≤ p.1) = !fullS p := by
    unfold fullS
    by_cases h : p.2 ≤ p.1 <;> simp [h] <;> omega
  obtain ⟨a, b⟩ := p
  simp only at hd ⊢
  generalize (!fullS (a, b)) = r at *
  go_enter Try.func25, Try.ntmps25
  go_wp2
  go_ret
  exact ⟨by simp_all, 0, _, by rw [alloc_eq_grow]; rfl⟩
/-- An operation whose guard is struck. -/
theorem struck_if {b : Bool} {p q : Prop} (hb : b = false) (h : q) : if b = true then p else q := by
  rw [hb]
  exact h
theorem below_growN {B : Nat} {a W : World} (h : Go.RowKit.Below B a W) (hB : B ≤ W.heap.size) (n : Nat) (os : Array Obj) : Go.RowKit.Below B a (grow (W.drewN n) os) := by
  refine h.trans ⟨rfl, rfl, rfl, ?_, fun k hk => ?_⟩
  · show W.heap.size ≤ (W.heap ++ os).size
    simp
  · show (W.heap ++ os)[k]? = _
    rw [Array.getElem?_append_left (by omega)]

set_option maxRecDepth 100000 in
set_option maxHeartbeats 400000 in
theorem check_any (v : Value) (ps : List Sp) (w : World) (h : SpansAt w v ps) : Calls Try.prog 10 #[v] w (RetB (.int .i64 (errOf (rightB ps))) w) := by
  obtain ⟨A, c, rfl, hc1, hlen, hc2, hat⟩ := h
  have HAT := Lib.hid hat
  have mixed : Try.prog.follows .mixedOrders = true := by kernel_rfl
  have HE := Lib.hid (fun (p : Sp) W => empty_grow p W)
  generalize hn : ps.length = n at *
  have HN := Lib.hid hn
  clear hat hn
  go_enter Try.func10, Try.ntmps10
  go_wp2_with fail
  go_loopg [3, 4, 7] n (fun g _ _ s7 wr => ∃ i : Nat, i ≤ n ∧ g = n - i ∧ s7 = .int .i64 i ∧ Below w.heap.size w wr ∧ ∀ j, j < i → OkAt ps j)
  case atStart => exact ⟨0, Nat.zero_le _, by omega, rfl, Below.refl _ _, fun j hj => absurd hj (Nat.not_lt_zero _)⟩
  case round =>
    obtain ⟨i, hin, hgg, rfl, hbw, hall⟩ := hrel
    have HG := Lib.hid hgg
    have HB := Lib.hid hbw
    have HALL := Lib.hid hall
    have hsz := hbw.size
    clear hgg hbw hall
    by_cases hlt : i < n
    · have hltz : (i : Int) < (n : Int) := by omega
      obtain ⟨b, off, hA, hbl, hcell⟩ := HAT.out (by omega)
      subst hA
      obtain ⟨y, hy⟩ := ex_at (xs := ps) (k := i) (by rw [HN.out]; exact hlt)
      obtain ⟨c1, c2⟩ := (hcell i y hy).keep HB.out hbl
      have HY := Lib.hid hy
      have HCELL := Lib.hid hcell
      clear hcell hy
      cases hq : fullS y
      · have HEY : Hid (∀ W, Calls Try.prog 25 #[.agg #[.int .i64 y.1, .int .i64 y.2]] W fun e w' => e = .returned (.bool true) ∧ ∃ q os', w' = grow (W.drewN q) os') := by
          intro W
          have := HE.out y W
          rw [hq] at this
          exact this
        have HQ := Lib.hid hq
        clear hq
        have HW : Hid (errOf (rightB ps) = 1) := by
          rw [rightB_no (i := i) (fun h => by have := (h y HY.out).1; rw [HQ.out] at this; cases this)]
          rfl
        obtain ⟨y1, y2⟩ := y
        simp only at c1 c2 HEY
        have HBX := Lib.hid (HB.out.alloc hsz (Obj.cells #[.int .i64 y1, .int .i64 y2] 45))
        have hxs : (wr.alloc (Obj.cells #[.int .i64 y1, .int .i64 y2] 45)).heap.size = wr.heap.size + 1 := by simp
        have k1 : (wr.alloc (Obj.cells #[.int .i64 y1, .int .i64 y2] 45)).cell? ⟨wr.heap.size, 0, none⟩ = some (.int .i64 y1) := by simp
        have k2 : (wr.alloc (Obj.cells #[.int .i64 y1, .int .i64 y2] 45)).cell? ⟨wr.heap.size, 1, none⟩ = some (.int .i64 y2) := by simp
        go_wp2_with fail
        generalize wr.alloc (Obj.cells #[.int .i64 y1, .int .i64 y2] 45) = wq at *
        have l1 := cell_grown (by show wr.heap.size < _; omega) k1
        have l2 := cell_grown (by show wr.heap.size < _; omega) k2
        clear k1 k2
        refine wp_region_quiet_grown mixed (by kernel_rfl) ?_
        quiet_step (fail)
        quiet_step (first | (go_at_call 25; refine Calls.grown_of (HEY.out _)))
        repeat (first | (with_reducible refine wpQuiet_step (fun K hK => ?_); go_simp; with_reducible refine hK _ ?_; clear hK K) | (with_reducible refine wpQuiet_step (fun K hK => ?_); with_reducible refine struck_if (by kernel_rfl) ?_; go_simp; with_reducible refine hK _ ?_; clear hK K))
        with_reducible refine wpQuiet_nil ?_
        intro _ hw'
        obtain ⟨⟨nq, osq⟩, hw''⟩ := hw'
        subst hw''
        go_wp2
        go_ret
        exact ⟨by rw [HW.out]; rfl, below_growN HBX.out (by omega) _ _⟩
      · have HEY : Hid (∀ W, Calls Try.prog 25 #[.agg #[.int .i64 y.1, .int .i64 y.2]] W fun e w' => e = .returned (.bool false) ∧ ∃ q os', w' = grow (W.drewN q) os') := by
          intro W
          have := HE.out y W
          rw [hq] at this
          exact this
        have HQ := Lib.hid hq
        clear hq
        rcases i with _ | k
        · have HOK : Hid (OkAt ps 0) := fun s hs => by
            have := HY.out
            rw [this] at hs
            cases hs
            exact ⟨HQ.out, fun k t hk => by omega⟩
          obtain ⟨y1, y2⟩ := y
          simp only [Nat.zero_mul, Nat.add_zero] at c1 c2 HEY
          have HBX := Lib.hid (HB.out.alloc hsz (Obj.cells #[.int .i64 y1, .int .i64 y2] 45))
          have hxs : (wr.alloc (Obj.cells #[.int .i64 y1, .int .i64 y2] 45)).heap.size = wr.heap.size + 1 := by simp
          have k1 : (wr.alloc (Obj.cells #[.int .i64 y1, .int .i64 y2] 45)).cell? ⟨wr.heap.size, 0, none⟩ = some (.int .i64 y1) := by simp
          have k2 : (wr.alloc (Obj.cells #[.int .i64 y1, .int .i64 y2] 45)).cell? ⟨wr.heap.size, 1, none⟩ = some (.int .i64 y2) := by simp
          go_wp2_with fail
          generalize wr.alloc (Obj.cells #[.int .i64 y1, .int .i64 y2] 45) = wq at *
          have l1 := cell_grown (by show wr.heap.size < _; omega) k1
          have l2 := cell_grown (by show wr.heap.size < _; omega) k2
          clear k1 k2
          refine wp_region_quiet_grown mixed (by kernel_rfl) ?_
          quiet_step (fail)
          quiet_step (first | (go_at_call 25; refine Calls.grown_of (HEY.out _)))
          repeat (with_reducible refine wpQuiet_step (fun K hK => ?_); go_simp; with_reducible refine hK _ ?_; clear hK K)
          with_reducible refine wpQuiet_nil ?_
          intro _ hw'
          obtain ⟨⟨nq, osq⟩, hw''⟩ := hw'
          subst hw''
          go_wp2
          go_roundg (n - (0 + 1))
          case measure => have := HG.out; omega
          case rel =>
            refine ⟨0 + 1, by omega, rfl, by go_num, below_growN HBX.out (by omega) _ _, fun j hj => ?_⟩
            by_cases e : j = 0
            · subst e
              exact HOK.out
            · exact HALL.out j (by omega)
        · obtain ⟨z, hz⟩ := ex_at (xs := ps) (k := k) (by rw [HN.out]; omega)
          obtain ⟨_, d2⟩ := (HCELL.out k z hz).keep HB.out hbl
          have hwr : IntKind.i64.wrap (k : Int) = k := IntWalk.i64_in _ (by omega)
          have hk1 : (k : Int) < (n : Int) := by omega
          have hk0 : (0 : Int) ≤ (k : Int) := by omega
          have hk2 : k < n := by omega
          by_cases hc : y.1 ≤ z.2
          · have HW : Hid (errOf (rightB ps) = 1) := by
              rw [rightB_no (i := k + 1) (fun h => by have := (h y HY.out).2 k z rfl hz; omega)]
              rfl
            have hcb : decide (y.1 ≤ z.2) = true := decide_eq_true hc
            clear hc hz
            obtain ⟨y1, y2⟩ := y
            obtain ⟨z1, z2⟩ := z
            simp only at c1 c2 d2 HEY hcb
            have HBX := Lib.hid (HB.out.alloc hsz (Obj.cells #[.int .i64 y1, .int .i64 y2] 45))
            have hxs : (wr.alloc (Obj.cells #[.int .i64 y1, .int .i64 y2] 45)).heap.size = wr.heap.size + 1 := by simp
            have k1 : (wr.alloc (Obj.cells #[.int .i64 y1, .int .i64 y2] 45)).cell? ⟨wr.heap.size, 0, none⟩ = some (.int .i64 y1) := by simp
            have k2 : (wr.alloc (Obj.cells #[.int .i64 y1, .int .i64 y2] 45)).cell? ⟨wr.heap.size, 1, none⟩ = some (.int .i64 y2) := by simp
            have k3 : (wr.alloc (Obj.cells #[.int .i64 y1, .int .i64 y2] 45)).cell? ⟨b, off + k * 2 + 1, none⟩ = some (.int .i64 z2) := Lib.cell?_alloc_some _ d2
            go_wp2_with fail
            generalize wr.alloc (Obj.cells #[.int .i64 y1, .int .i64 y2] 45) = wq at *
            have l1 := cell_grown (by show wr.heap.size < _; omega) k1
            have l2 := cell_grown (by show wr.heap.size < _; omega) k2
            clear k1 k2
            have l3 := cell_grown (by show b < _; omega) k3
            clear k3
            refine wp_region_quiet_grown mixed (by kernel_rfl) ?_
            quiet_step (fail)
            quiet_step (first | (go_at_call 25; refine Calls.grown_of (HEY.out _)))
            repeat (with_reducible refine wpQuiet_step (fun K hK => ?_); go_simp; with_reducible refine hK _ ?_; clear hK K)
            with_reducible refine wpQuiet_nil ?_
            intro _ hw'
            obtain ⟨⟨nq, osq⟩, hw''⟩ := hw'
            subst hw''
            go_wp2
            go_ret
            exact ⟨by rw [HW.out]; rfl, below_growN HBX.out (by omega) _ _⟩
          · have HOK : Hid (OkAt ps (k + 1)) := fun s hs => by
              have := HY.out
              rw [this] at hs
              cases hs
              refine ⟨HQ.out, fun k' t hk ht => ?_⟩
              obtain rfl : k = k' := by omega
              rw [hz] at ht
              cases ht
              omega
            have hcb : decide (y.1 ≤ z.2) = false := decide_eq_false hc
            clear hc hz
            obtain ⟨y1, y2⟩ := y
            obtain ⟨z1, z2⟩ := z
            simp only at c1 c2 d2 HEY hcb
            have HBX := Lib.hid (HB.out.alloc hsz (Obj.cells #[.int .i64 y1, .int .i64 y2] 45))
            have hxs : (wr.alloc (Obj.cells #[.int .i64 y1, .int .i64 y2] 45)).heap.size = wr.heap.size + 1 := by simp
            have k1 : (wr.alloc (Obj.cells #[.int .i64 y1, .int .i64 y2] 45)).cell? ⟨wr.heap.size, 0, none⟩ = some (.int .i64 y1) := by simp
            have k2 : (wr.alloc (Obj.cells #[.int .i64 y1, .int .i64 y2] 45)).cell? ⟨wr.heap.size, 1, none⟩ = some (.int .i64 y2) := by simp
            have k3 : (wr.alloc (Obj.cells #[.int .i64 y1, .int .i64 y2] 45)).cell? ⟨b, off + k * 2 + 1, none⟩ = some (.int .i64 z2) := Lib.cell?_alloc_some _ d2
            go_wp2_with fail
            generalize wr.alloc (Obj.cells #[.int .i64 y1, .int .i64 y2] 45) = wq at *
            have l1 := cell_grown (by show wr.heap.size < _; omega) k1
            have l2 := cell_grown (by show wr.heap.size < _; omega) k2
            clear k1 k2
            have l3 := cell_grown (by show b < _; omega) k3
            clear k3
            refine wp_region_quiet_grown mixed (by kernel_rfl) ?_
            quiet_step (fail)
            quiet_step (first | (go_at_call 25; refine Calls.grown_of (HEY.out _)))
            repeat (with_reducible refine wpQuiet_step (fun K hK => ?_); go_simp; with_reducible refine hK _ ?_; clear hK K)
            with_reducible refine wpQuiet_nil ?_
            intro _ hw'
            obtain ⟨⟨nq, osq⟩, hw''⟩ := hw'
            subst hw''
            go_wp2
            go_roundg (n - ((k + 1) + 1))
            case measure => have := HG.out; omega
            case rel =>
              refine ⟨(k + 1) + 1, by omega, rfl, by go_num, below_growN HBX.out (by omega) _ _, fun j hj => ?_⟩
              by_cases e : j = (k + 1)
              · subst e
                exact HOK.out
              · exact HALL.out j (by omega)
    · have hin' : i = n := by omega
      subst hin'
      have hltz : ¬ (i : Int) < (i : Int) := by omega
      have HW : Hid (errOf (rightB ps) = 0) := by
        rw [rightB_yes fun j => ?_]
        · rfl
        · rcases Nat.lt_or_ge j i with hj | hj
          · exact HALL.out j hj
          · intro s hs
            have := (List.getElem?_eq_some_iff.1 hs).1
            rw [HN.out] at this
            omega
      go_wp2
      go_ret
      exact ⟨by rw [HW.out]; rfl, HB.out⟩
end Go.Proofs.Ytkldinppmnjmbaa
