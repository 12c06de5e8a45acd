/-
  The plain answers: Sum, Check, Right, total, checkTotal, takesPart, Same.
  Conditions: where a sum is taken: at most 64 numbers, each from -2^40 to 2^40.
-/
import Derived.Test.YtademjmnoncieaaInts
set_option linter.unusedVariables false
namespace Go.Proofs.Ytademjmnoncieaa
open Go.RowKit

theorem below_drewN {B : Nat} {a w : World} (h : Below B a w) (n : Nat) : Below B a (w.drewN n) := ⟨h.os, h.tape, h.output, h.size, h.block⟩

/-- Weights that are right. -/
def Right (xs : List Int) : Prop := xs.length ≤ 64 ∧ (∀ x ∈ xs, 0 ≤ x ∧ x ≤ 1000) ∧ 0 < sumL xs
noncomputable def rightB (xs : List Int) : Bool := @decide (Right xs) (Classical.propDecidable _)
noncomputable def chk (xs : List Int) : Int := if rightB xs = true then 0 else 1
theorem rightB_true {xs : List Int} (h : Right xs) : rightB xs = true := by unfold rightB; exact @decide_eq_true _ (Classical.propDecidable _) h
theorem rightB_false {xs : List Int} (h : ¬ Right xs) : rightB xs = false := by unfold rightB; exact @decide_eq_false _ (Classical.propDecidable _) h
theorem chk_ok {xs : List Int} (h : Right xs) : chk xs = 0 := by unfold chk; rw [rightB_true h]; rfl
theorem chk_bad {xs : List Int} (h : ¬ Right xs) : chk xs = 1 := by unfold chk; rw [rightB_false h]; rfl

/-- The first k are in range. -/
def InR (xs : List Int) (k : Nat) : Prop := ∀ x ∈ xs.take k, 0 ≤ x ∧ x ≤ 1000
theorem InR.zero (xs : List Int) : InR xs 0 := fun x hx => by simp at hx
theorem InR.succ {xs : List Int} {k : Nat} {x : Int} (h : InR xs k) (hx : xs[k]? = some x) (h0 : 0 ≤ x) (h1 : x ≤ 1000) : InR xs (k + 1) := fun y hy => by
  rw [List.take_add_one, hx] at hy
  rcases List.mem_append.1 hy with hy | hy
  · exact h y hy
  · simp at hy; subst hy; exact ⟨h0, h1⟩
theorem InR.all {xs : List Int} {k : Nat} (h : InR xs k) (hk : xs.length ≤ k) : ∀ x ∈ xs, 0 ≤ x ∧ x ≤ 1000 := fun x hx => h x (by rwa [List.take_of_length_le hk])
theorem small_of {xs : List Int} (hl : xs.length ≤ 64) (h : ∀ x ∈ xs, 0 ≤ x ∧ x ≤ 1000) : Small xs := ⟨hl, fun x hx => by have := h x hx; omega⟩
theorem Right.small {xs : List Int} (h : Right xs) : Small xs := small_of h.1 h.2.1
theorem Right.at {xs : List Int} (h : Right xs) {k : Nat} {x : Int} (hx : xs[k]? = some x) : 0 ≤ x ∧ x ≤ 1000 := h.2.1 x (List.mem_of_getElem? hx)
theorem not_right_at {xs : List Int} {k : Nat} {x : Int} (hx : xs[k]? = some x) (h : x < 0 ∨ 1000 < x) : ¬ Right xs := fun hr => by have := hr.at hx; omega
theorem sumL_nonneg {xs : List Int} (h : ∀ x ∈ xs, 0 ≤ x ∧ x ≤ 1000) : 0 ≤ sumL xs := by
  unfold sumL
  induction xs with
  | nil => simp
  | cons a l ih =>
    rw [List.sum_cons]
    have := h a (by simp)
    have := ih fun x hx => h x (by simp [hx])
    omega
theorem Right.pos {xs : List Int} (h : Right xs) : 0 < xs.length := by
  rcases Nat.eq_zero_or_pos xs.length with h0 | h0
  · have := List.eq_nil_of_length_eq_zero h0
    subst this
    have := h.2.2
    simp [sumL] at this
  · exact h0
theorem Right.sumBound {xs : List Int} (h : Right xs) : 0 < sumL xs ∧ sumL xs ≤ 64000 := by
  refine ⟨h.2.2, ?_⟩
  have key : ∀ k, k ≤ xs.length → sumT xs k ≤ 1000 * (k : Int) := by
    intro k
    induction k with
    | zero => intro _; rw [sumT_zero]; omega
    | succ k ih =>
      intro hk
      have hx : xs[k]? = some xs[k] := List.getElem?_eq_getElem (by omega)
      have := h.at hx
      rw [sumT_succ hx]
      have := ih (by omega)
      omega
  have := key xs.length (Nat.le_refl _)
  rw [sumT_all (Nat.le_refl _)] at this
  have := h.1
  omega

def CheckRel (xs : List Int) (i : Value) : Prop := ∃ k : Nat, k ≤ xs.length ∧ i = .int .i64 k ∧ InR xs k

set_option maxHeartbeats 1000000 in
theorem check_any (xs : List Int) (v : Value) (w : World) (hs : IntsAt w v xs) :
    Calls Try.prog 39 #[v] w (Ret (.int .i64 (chk xs)) w) := by
  have HI := Lib.hid hs
  obtain ⟨A, c, rfl, hl, hat⟩ := hs
  have HA := Lib.hid hat
  clear hat
  by_cases h0 : xs.length < 1
  · have e := chk_bad (xs := xs) (fun h => by have := h.pos; omega)
    rw [e]
    clear e
    have h0' : xs.length = 0 := by omega
    rw [h0']
    go_enter Try.func39, Try.ntmps39
    go_wp2
    go_ret
    exact ⟨rfl, rfl⟩
  by_cases h64 : 64 < xs.length
  · have e := chk_bad (xs := xs) (fun h => by have := h.1; omega)
    rw [e]
    clear e
    go_enter Try.func39, Try.ntmps39
    go_wp2
    go_ret
    exact ⟨rfl, rfl⟩
  have h64' : xs.length ≤ 64 := by omega
  have h1 : 1 ≤ xs.length := by omega
  have t1 : decide ((xs.length : Int) < 1) = false := decide_eq_false (by omega)
  have t2 : decide ((64 : Int) < (xs.length : Int)) = false := decide_eq_false (by omega)
  go_enter Try.func39, Try.ntmps39
  go_wp2
  go_loop [15] (fun i => CheckRel xs i) (fun i => xs.length - (intOf i).toNat)
  case atStart => exact ⟨0, Nat.zero_le _, rfl, InR.zero _⟩
  case round =>
    obtain ⟨k, hk, rfl, hr⟩ := hrel
    have HR := Lib.hid hr
    clear hr
    by_cases hlt : k < xs.length
    · obtain ⟨x, hx⟩ := ex_at hlt
      obtain ⟨b, off, rfl, hb, hc⟩ := HA.out (by omega)
      have hck := hc k x hx
      have HX := Lib.hid hx
      clear hc hx
      by_cases c1 : x < 0
      · have E := Lib.hid (chk_bad (not_right_at HX.out (.inl c1)))
        go_wp2
        go_ret
        exact ⟨ret_int E.out.symm, rfl⟩
      · by_cases c2 : 1000 < x
        · have E := Lib.hid (chk_bad (not_right_at HX.out (.inr c2)))
          go_wp2
          go_ret
          exact ⟨ret_int E.out.symm, rfl⟩
        · have c1' : 0 ≤ x := by omega
          have c2' : x ≤ 1000 := by omega
          go_wp2
          go_round
          case rel => exact ⟨k + 1, by omega, by go_num, HR.out.succ HX.out c1' c2'⟩
          case measure => simp [intOf]; omega
    · have hall := HR.out.all (by omega)
      have hsum := sum3_any xs _ w HI.out (small_of h64' hall)
      have HS := Lib.hid hsum
      have HALL := Lib.hid hall
      clear hsum hall
      by_cases hz : sumL xs = 0
      · have E := Lib.hid (chk_bad (xs := xs) (fun h => by have := h.2.2; omega))
        have hz' : (sumL xs == 0) = true := by simpa using hz
        clear hz
        go_wp2_with (go_at_call 31; refine HS.out.mono ?_; rintro e w' ⟨rfl, rfl⟩)
        go_ret
        exact ⟨ret_int E.out.symm, rfl⟩
      · have E := Lib.hid (chk_ok (xs := xs) ⟨h64', HALL.out, by have := sumL_nonneg HALL.out; omega⟩)
        have hz' : (sumL xs == 0) = false := by simpa using hz
        clear hz
        go_wp2_with (go_at_call 31; refine HS.out.mono ?_; rintro e w' ⟨rfl, rfl⟩)
        go_ret
        exact ⟨ret_int E.out.symm, rfl⟩

def RightRel (xs : List Int) (s i : Value) : Prop := ∃ (k : Nat) (t : Bool), k ≤ xs.length ∧ i = .int .i64 k ∧ s = .bool t ∧ InR xs k ∧ (t = true ↔ 0 < sumT xs k)

theorem sumT_nonneg {xs : List Int} : ∀ {k : Nat}, InR xs k → 0 ≤ sumT xs k := fun {k} h => by
  have : 0 ≤ sumL (xs.take k) := sumL_nonneg h
  exact this

theorem ret_bool {a b : Bool} (h : a = b) : Ending.returned (.bool a) = .returned (.bool b) := by rw [h]

set_option maxHeartbeats 1000000 in
theorem right_any (xs : List Int) (v : Value) (w : World) (hs : IntsAt w v xs) :
    Calls Try.prog 21 #[v] w (Ret (.bool (rightB xs)) w) := by
  obtain ⟨A, c, rfl, hl, hat⟩ := hs
  have HA := Lib.hid hat
  clear hat
  go_enter Try.func21, Try.ntmps21
  go_wp2
  go_loop [3, 4] (fun s i => RightRel xs s i) (fun _ i => xs.length - (intOf i).toNat)
  case atStart => exact ⟨0, false, Nat.zero_le _, rfl, rfl, InR.zero _, by rw [sumT_zero]; simp⟩
  case round =>
    obtain ⟨k, t, hk, rfl, rfl, hr, hts⟩ := hrel
    have HR := Lib.hid hr
    have HT := Lib.hid hts
    clear hr hts
    by_cases hlt : k < xs.length
    · obtain ⟨x, hx⟩ := ex_at hlt
      obtain ⟨b, off, rfl, hb, hc⟩ := HA.out (by omega)
      have hck := hc k x hx
      have HX := Lib.hid hx
      clear hc hx
      by_cases c1 : x < 0
      · have E := Lib.hid (rightB_false (not_right_at HX.out (.inl c1)))
        go_wp2
        go_ret
        exact ⟨ret_bool E.out.symm, rfl⟩
      · by_cases c2 : 1000 < x
        · have E := Lib.hid (rightB_false (not_right_at HX.out (.inr c2)))
          go_wp2
          go_ret
          exact ⟨ret_bool E.out.symm, rfl⟩
        · have c1' : 0 ≤ x := by omega
          have c2' : x ≤ 1000 := by omega
          cases t
          · by_cases c3 : 0 < x
            · go_wp2
              go_round
              case rel => exact ⟨k + 1, true, by omega, by go_num, rfl, HR.out.succ HX.out c1' c2', by have := sumT_nonneg HR.out; rw [sumT_succ HX.out]; simp; omega⟩
              case measure => simp [intOf]; omega
            · have c3' : x ≤ 0 := by omega
              go_wp2
              go_round
              case rel => exact ⟨k + 1, false, by omega, by go_num, rfl, HR.out.succ HX.out c1' c2', by have := HT.out; rw [sumT_succ HX.out]; simp at this ⊢; omega⟩
              case measure => simp [intOf]; omega
          · go_wp2
            go_round
            case rel => exact ⟨k + 1, true, by omega, by go_num, rfl, HR.out.succ HX.out c1' c2', by have := HT.out; rw [sumT_succ HX.out]; simp at this ⊢; omega⟩
            case measure => simp [intOf]; omega
    · have hall := Lib.hid (HR.out.all (by omega))
      have hT : Hid (t = true ↔ 0 < sumL xs) := by have := HT.out; rwa [sumT_all (by omega)] at this
      cases t
      · have E := Lib.hid (rightB_false (xs := xs) (fun h => by have := hT.out.2 h.2.2; cases this))
        go_wp2
        go_ret
        exact ⟨ret_bool E.out.symm, rfl⟩
      · by_cases h64 : xs.length ≤ 64
        · have E := Lib.hid (rightB_true (xs := xs) ⟨h64, hall.out, hT.out.1 rfl⟩)
          have h64' : decide ((xs.length : Int) ≤ 64) = true := decide_eq_true (by omega)
          go_wp2
          go_ret
          exact ⟨ret_bool E.out.symm, rfl⟩
        · have E := Lib.hid (rightB_false (xs := xs) (fun h => h64 h.1))
          have h64' : decide ((xs.length : Int) ≤ 64) = false := decide_eq_false (by omega)
          have h65 : 64 < xs.length := by omega
          go_wp2
          go_ret
          exact ⟨ret_bool E.out.symm, rfl⟩

/-- A total and weights that are right. -/
def AllRight (n : Int) (xs : List Int) : Prop := 0 ≤ n ∧ n ≤ 1048576 ∧ Right xs

theorem checkTotal_ok (n : Int) (xs : List Int) (v : Value) (w : World) (hs : IntsAt w v xs) (h : AllRight n xs) :
    Calls Try.prog 29 #[.int .i64 n, v] w (Ret (.int .i64 0) w) := by
  obtain ⟨h0, h1, hr⟩ := h
  have HC := Lib.hid (check_any xs v w hs)
  rw [chk_ok hr] at HC
  clear hr hs
  go_enter Try.func29, Try.ntmps29
  go_wp2_with (go_at_call 39; refine HC.out.mono ?_; rintro e w' ⟨rfl, rfl⟩)
  go_ret
  exact ⟨rfl, rfl⟩
theorem checkTotal_bad (n : Int) (xs : List Int) (v : Value) (w : World) (hs : IntsAt w v xs) (h : ¬ AllRight n xs) :
    Calls Try.prog 29 #[.int .i64 n, v] w (Ret (.int .i64 1) w) := by
  by_cases h0 : n < 0
  · go_enter Try.func29, Try.ntmps29
    go_wp2_with fail
    go_ret
    exact ⟨rfl, rfl⟩
  · by_cases h1 : 1048576 < n
    · have h0' : 0 ≤ n := by omega
      go_enter Try.func29, Try.ntmps29
      go_wp2_with fail
      go_ret
      exact ⟨rfl, rfl⟩
    · have h0' : 0 ≤ n := by omega
      have h1' : n ≤ 1048576 := by omega
      have HC := Lib.hid (check_any xs v w hs)
      rw [chk_bad (fun hr => h ⟨h0', h1', hr⟩)] at HC
      clear h hs
      go_enter Try.func29, Try.ntmps29
      go_wp2_with (go_at_call 39; refine HC.out.mono ?_; rintro e w' ⟨rfl, rfl⟩)
      go_ret
      exact ⟨rfl, rfl⟩

/-- Who takes part. -/
def takesB (x y : Int) : Bool := decide (0 < x ∧ x ≤ 1000 ∧ 0 ≤ y ∧ y < 1099511627776)

theorem takes_yes (x y : Int) (w : World) (h : takesB x y = true) : Calls Try.prog 40 #[.int .i64 x, .int .i64 y] w (Ret (.bool true) w) := by
  obtain ⟨h1, h2, h3, h4⟩ := of_decide_eq_true h
  clear h
  go_enter Try.func40, Try.ntmps40
  go_wp2
  go_ret
  exact ⟨rfl, rfl⟩
theorem takes_no (x y : Int) (w : World) (h : takesB x y = false) : Calls Try.prog 40 #[.int .i64 x, .int .i64 y] w (Ret (.bool false) w) := by
  have h := of_decide_eq_false h
  by_cases h1 : 0 < x
  · by_cases h2 : x ≤ 1000
    · by_cases h3 : 0 ≤ y
      · have h4 : 1099511627776 ≤ y := by omega
        have h4' : decide (y < 1099511627776) = false := decide_eq_false (by omega)
        clear h
        go_enter Try.func40, Try.ntmps40
        go_wp2
        go_ret
        exact ⟨rfl, rfl⟩
      · have h3' : y < 0 := by omega
        clear h
        go_enter Try.func40, Try.ntmps40
        go_wp2
        go_ret
        exact ⟨rfl, rfl⟩
    · have h3' : 1000 < x := by omega
      clear h
      go_enter Try.func40, Try.ntmps40
      go_wp2
      go_ret
      exact ⟨rfl, rfl⟩
  · have h3' : x ≤ 0 := by omega
    clear h
    go_enter Try.func40, Try.ntmps40
    go_wp2
    go_ret
    exact ⟨rfl, rfl⟩

def SameRel (xs ys : List Int) (w : World) (g : Nat) (i : Value) (wr : World) : Prop := ∃ k : Nat, k ≤ xs.length ∧ g = xs.length - k ∧ i = .int .i64 k ∧ xs.take k = ys.take k ∧ Below w.heap.size w wr

theorem take_same {xs ys : List Int} {k : Nat} {x y : Int} (h : xs.take k = ys.take k) (hx : xs[k]? = some x) (hy : ys[k]? = some y) (e : x = y) : xs.take (k + 1) = ys.take (k + 1) := by
  rw [List.take_add_one, List.take_add_one, h, hx, hy, e]

theorem differ {xs ys : List Int} {k : Nat} {x y : Int} (hx : xs[k]? = some x) (hy : ys[k]? = some y) (e : x ≠ y) : xs ≠ ys := by
  rintro rfl
  rw [hx] at hy
  exact e (Option.some.inj hy)

set_option maxHeartbeats 1000000 in
theorem same_any (xs ys : List Int) (u v : Value) (w : World) (hs : IntsAt w u xs) (ht : IntsAt w v ys) :
    Calls Try.prog 23 #[u, v] w (RetB (.bool (decide (xs = ys))) w) := by
  obtain ⟨A, c, rfl, hl, hat⟩ := hs
  obtain ⟨B, d, rfl, hm, hbt⟩ := ht
  have HA := Lib.hid hat
  have HB := Lib.hid hbt
  clear hat hbt
  by_cases hne : xs.length = ys.length
  · have HN := Lib.hid hne
    have hn1 : ((xs.length : Int) == (ys.length : Int)) = true := by simp; omega
    have hn2 : ((xs.length : Int) != (ys.length : Int)) = false := by simp; omega
    clear hne
    obtain ⟨m, hm'⟩ : ∃ m, m = ys.length := ⟨_, rfl⟩
    rw [← hm'] at hm hn1 hn2 HN ⊢
    have HM := Lib.hid hm'
    clear hm'
    go_enter Try.func23, Try.ntmps23
    go_wp2_with fail
    go_loopg [5] xs.length (fun g i wr => SameRel xs ys w g i wr)
    case atStart => exact ⟨0, Nat.zero_le _, rfl, rfl, rfl, Below.refl _ _⟩
    case round =>
      obtain ⟨k, hk, hg, rfl, htk, hbw⟩ := hrel
      have HG := Lib.hid hg
      have HT := Lib.hid htk
      have HW := Lib.hid hbw
      clear hg htk hbw
      by_cases hlt : k < xs.length
      · obtain ⟨x, hx⟩ := ex_at hlt
        obtain ⟨y, hy⟩ := ex_at (xs := ys) (k := k) (by have := HN.out; have := HM.out; omega)
        obtain ⟨b, off, rfl, hb, hc⟩ := HA.out (by omega)
        obtain ⟨b', off', rfl, hb', hc'⟩ := HB.out (by have := HN.out; have := HM.out; omega)
        have hck : wr.cell? ⟨b, off + k, none⟩ = some (.int .i64 x) := (HW.out.cell (p := ⟨b, off + k, none⟩) hb).trans (hc k x hx)
        have hck' : wr.cell? ⟨b', off' + k, none⟩ = some (.int .i64 y) := (HW.out.cell (p := ⟨b', off' + k, none⟩) hb').trans (hc' k y hy)
        have hkm : k < m := by have := HN.out; omega
        have HX := Lib.hid hx
        have HY := Lib.hid hy
        clear hc hc' hx hy
        by_cases hxy : x = y
        · have HE := Lib.hid hxy
          have hxy' : (x == y) = true := by simpa using hxy
          have hxy'' : (x != y) = false := by simpa using hxy
          clear hxy
          go_wp2_with fail
          go_quiet (fail)
          go_wp2_with fail
          go_roundg (xs.length - (k + 1))
          case measure => have := HG.out; omega
          case rel => exact ⟨k + 1, by omega, rfl, by go_num, take_same HT.out HX.out HY.out HE.out, below_drewN HW.out _⟩
        · have E := Lib.hid (decide_eq_false (differ HX.out HY.out hxy))
          have hxy' : (x == y) = false := by simpa using hxy
          have hxy'' : (x != y) = true := by simpa using hxy
          clear hxy
          go_wp2_with fail
          go_quiet (fail)
          go_wp2_with fail
          go_ret
          exact ⟨ret_bool E.out.symm, below_drewN HW.out _⟩
      · have E := Lib.hid (decide_eq_true (show xs = ys by
          have := HT.out
          rwa [List.take_of_length_le (by omega), List.take_of_length_le (by have := HN.out; have := HM.out; omega)] at this))
        go_wp2_with fail
        go_ret
        exact ⟨ret_bool E.out.symm, HW.out⟩
  · have E := Lib.hid (decide_eq_false (show ¬ xs = ys from fun e => hne (by rw [e])))
    have hn1 : ((xs.length : Int) == (ys.length : Int)) = false := by simp; omega
    have hn2 : ((xs.length : Int) != (ys.length : Int)) = true := by simp; omega
    clear hne
    go_enter Try.func23, Try.ntmps23
    go_wp2_with fail
    go_ret
    exact ⟨ret_bool E.out.symm, Below.refl _ _⟩
end Go.Proofs.Ytademjmnoncieaa
