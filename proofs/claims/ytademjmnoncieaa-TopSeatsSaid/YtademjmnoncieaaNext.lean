/-
  Who is next: by definition, and both functions that tell it.
  Conditions: none.
-/
import Derived.Test.YtademjmnoncieaaChecks
set_option linter.unusedVariables false
namespace Go.Proofs.Ytademjmnoncieaa
open Go.RowKit

def lessF (ws hs : List Int) (i b : Nat) : Bool := decide ((hs.getD i 0 + 1) * ws.getD b 0 < (hs.getD b 0 + 1) * ws.getD i 0)

def stepN (ws hs : List Int) (o : Option Nat) (i : Nat) : Option Nat :=
  if takesB (ws.getD i 0) (hs.getD i 0) = true then
    match o with
    | none => some i
    | some b => if lessF ws hs i b = true then some i else some b
  else o

/-- The best of the first k. -/
def nextT (ws hs : List Int) : Nat → Option Nat
  | 0 => none
  | k + 1 => stepN ws hs (nextT ws hs k) k

def nextL (ws hs : List Int) : Option Nat := nextT ws hs (min ws.length hs.length)

theorem nextT_some {ws hs : List Int} : ∀ {k b : Nat}, nextT ws hs k = some b → b < k ∧ takesB (ws.getD b 0) (hs.getD b 0) = true
  | 0, b, h => by cases h
  | k + 1, b, h => by
    rw [nextT] at h
    unfold stepN at h
    by_cases ht : takesB (ws.getD k 0) (hs.getD k 0) = true
    · rw [if_pos ht] at h
      cases ho : nextT ws hs k with
      | none => rw [ho] at h; simp at h; subst h; exact ⟨by omega, ht⟩
      | some c =>
        rw [ho] at h
        simp only [] at h
        split at h
        · injection h with h; subst h; exact ⟨by omega, ht⟩
        · injection h with h; subst h; have := nextT_some ho; exact ⟨by omega, this.2⟩
    · rw [if_neg ht] at h
      have := nextT_some h
      exact ⟨by omega, this.2⟩

def nextV : Option Nat → Value
  | none => .tuple #[.int .i64 0, .bool false]
  | some b => .tuple #[.int .i64 (b : Int), .bool true]

theorem getD_of {xs : List Int} {k : Nat} {x : Int} (h : xs[k]? = some x) : xs.getD k 0 = x := by rw [List.getD_eq_getElem?_getD, h]; rfl

theorem quiet_ret {P : Program} {f : FuncId} {args : Array Value} {w : World} {n : Nat} {v : Value} (h : Calls P f args (w.drewN n) (Ret v (w.drewN n))) :
    Calls P f args (w.drewN n) fun e w'' => e = .returned v ∧ ∃ m, w'' = w.drewN m := h.mono fun _ _ ⟨he, hm⟩ => ⟨he, n, hm.symm⟩

theorem step_skip {ws hs : List Int} {k : Nat} {x y : Int} (hx : ws[k]? = some x) (hy : hs[k]? = some y) (h : takesB x y = false) : nextT ws hs (k + 1) = nextT ws hs k := by
  rw [nextT]
  unfold stepN
  rw [getD_of hx, getD_of hy, h]; rfl
theorem step_first {ws hs : List Int} {k : Nat} {x y : Int} (hx : ws[k]? = some x) (hy : hs[k]? = some y) (h : takesB x y = true) (hn : nextT ws hs k = none) : nextT ws hs (k + 1) = some k := by
  rw [nextT]
  unfold stepN
  rw [getD_of hx, getD_of hy, h, hn]; rfl
theorem step_take {ws hs : List Int} {k b : Nat} {x y p q : Int} (hx : ws[k]? = some x) (hy : hs[k]? = some y) (h : takesB x y = true) (hn : nextT ws hs k = some b)
    (hp : ws[b]? = some p) (hq : hs[b]? = some q) (hl : (y + 1) * p < (q + 1) * x) : nextT ws hs (k + 1) = some k := by
  rw [nextT]
  unfold stepN
  rw [getD_of hx, getD_of hy, h, hn, if_pos rfl]
  simp only [lessF, getD_of hx, getD_of hy, getD_of hp, getD_of hq]
  rw [if_pos (decide_eq_true hl)]
theorem step_stay {ws hs : List Int} {k b : Nat} {x y p q : Int} (hx : ws[k]? = some x) (hy : hs[k]? = some y) (h : takesB x y = true) (hn : nextT ws hs k = some b)
    (hp : ws[b]? = some p) (hq : hs[b]? = some q) (hl : ¬ (y + 1) * p < (q + 1) * x) : nextT ws hs (k + 1) = some b := by
  rw [nextT]
  unfold stepN
  rw [getD_of hx, getD_of hy, h, hn, if_pos rfl]
  simp only [lessF, getD_of hx, getD_of hy, getD_of hp, getD_of hq]
  rw [if_neg (by rw [decide_eq_false hl]; simp)]

theorem prod_in {y p : Int} (h0 : 0 ≤ y) (h1 : y < 1099511627776) (h2 : 0 < p) (h3 : p ≤ 1000) : 0 ≤ (y + 1) * p ∧ (y + 1) * p ≤ 1099511627776000 := by
  constructor
  · exact Int.mul_nonneg (by omega) (by omega)
  · have : (y + 1) * p ≤ 1099511627776 * 1000 := Int.mul_le_mul (by omega) h3 (by omega) (by omega)
    omega

def NextRel (ws hs : List Int) (m : Nat) (w : World) (g : Nat) (s6 s7 s14 : Value) (wr : World) : Prop :=
  ∃ k : Nat, k ≤ m ∧ g = m - k ∧ s14 = .int .i64 k ∧ Below w.heap.size w wr ∧
    ((nextT ws hs k = none ∧ s6 = .int .i64 0 ∧ s7 = .bool false) ∨ ∃ b : Nat, nextT ws hs k = some b ∧ s6 = .int .i64 b ∧ s7 = .bool true)

set_option maxRecDepth 100000 in
set_option maxHeartbeats 2000000 in
theorem next_any (ws hs : List Int) (u v : Value) (w : World) (hu : IntsAt w u ws) (hv : IntsAt w v hs) :
    Calls Try.prog 32 #[u, v] w (RetB (nextV (nextL ws hs)) w) := by
  obtain ⟨A, c, rfl, hl, hat⟩ := hu
  obtain ⟨B, d, rfl, hm, hbt⟩ := hv
  have HA := Lib.hid hat
  have HB := Lib.hid hbt
  clear hat hbt
  go_enter Try.func32, Try.ntmps32
  go_wp2_with fail
  all_goals
    go_loopg [6, 7, 14] (min ws.length hs.length) (fun g s6 s7 s14 wr => NextRel ws hs (min ws.length hs.length) w g s6 s7 s14 wr)
    case atStart => exact ⟨0, Nat.zero_le _, rfl, rfl, Below.refl _ _, .inl ⟨rfl, rfl, rfl⟩⟩
    case round =>
      obtain ⟨k, hk, hg, rfl, hbw, hst⟩ := hrel
      have HG := Lib.hid hg
      have HW := Lib.hid hbw
      clear hg hbw
      by_cases hlt : k < min ws.length hs.length
      · have l1 : k < ws.length := by omega
        have l2 : k < hs.length := by omega
        obtain ⟨x, hx⟩ := ex_at l1
        obtain ⟨y, hy⟩ := ex_at l2
        obtain ⟨b1, o1, rfl, h1, hc⟩ := HA.out (by omega)
        obtain ⟨b2, o2, rfl, h2, hc'⟩ := HB.out (by omega)
        have cell1 := Lib.hid (fun (j : Nat) (z : Int) (h : ws[j]? = some z) => (HW.out.cell (p := ⟨b1, o1 + j, none⟩) h1).trans (hc j z h))
        have cell2 := Lib.hid (fun (j : Nat) (z : Int) (h : hs[j]? = some z) => (HW.out.cell (p := ⟨b2, o2 + j, none⟩) h2).trans (hc' j z h))
        clear hc hc'
        have hckx := cell1.out k x hx
        have hcky := cell2.out k y hy
        have HX := Lib.hid hx
        have HY := Lib.hid hy
        clear hx hy hlt
        by_cases ht : takesB x y = true
        · have HT := Lib.hid ht
          have TK := Lib.hid (fun W => takes_yes x y W ht)
          obtain ⟨t1, t2, t3, t4⟩ := of_decide_eq_true ht
          clear ht
          rcases hst with ⟨hn, rfl, rfl⟩ | ⟨b, hn, rfl, rfl⟩
          · have HN := Lib.hid hn
            clear hn
            go_wp2_with fail
            go_quiet ((go_at_call 40; exact quiet_ret (TK.out _)))
            go_wp2_with fail
            go_quiet (fail)
            go_wp2_with fail
            go_roundg (min ws.length hs.length - (k + 1))
            case measure => have := HG.out; omega
            case rel => exact ⟨k + 1, by omega, rfl, by go_num, below_drewN HW.out _, .inr ⟨k, step_first HX.out HY.out HT.out HN.out, rfl, rfl⟩⟩
          · have hbk := nextT_some hn
            have lb : b < k := hbk.1
            obtain ⟨p, hp⟩ := ex_at (xs := ws) (k := b) (by omega)
            obtain ⟨q, hq⟩ := ex_at (xs := hs) (k := b) (by omega)
            have hbt : takesB p q = true := by have := hbk.2; rwa [getD_of hp, getD_of hq] at this
            obtain ⟨s1, s2, s3, s4⟩ := of_decide_eq_true hbt
            have hcbp := cell1.out b p hp
            have hcbq := cell2.out b q hq
            have HP := Lib.hid hp
            have HQ := Lib.hid hq
            have HN := Lib.hid hn
            have lb1 : b < ws.length := by omega
            have lb2 : b < hs.length := by omega
            clear hbk hp hq hbt hn
            obtain ⟨p1, p2⟩ := prod_in t3 t4 s1 s2
            obtain ⟨p3, p4⟩ := prod_in s3 s4 t1 t2
            have e1 : IntKind.i64.wrap (y + 1) = y + 1 := IntWalk.i64_in _ (by omega)
            have e2 : IntKind.i64.wrap (q + 1) = q + 1 := IntWalk.i64_in _ (by omega)
            have e3 : IntKind.i64.wrap ((y + 1) * p) = (y + 1) * p := IntWalk.i64_in _ (by omega)
            have e4 : IntKind.i64.wrap ((q + 1) * x) = (q + 1) * x := IntWalk.i64_in _ (by omega)
            clear p1 p2 p3 p4
            by_cases hless : (y + 1) * p < (q + 1) * x
            · have HL := Lib.hid hless
              have hd : decide ((y + 1) * p < (q + 1) * x) = true := decide_eq_true hless
              clear hless
              go_wp2_with fail
              go_quiet ((go_at_call 40; exact quiet_ret (TK.out _)))
              go_wp2_with fail
              go_quiet (fail)
              go_wp2_with fail
              go_roundg (min ws.length hs.length - (k + 1))
              case measure => have := HG.out; omega
              case rel => exact ⟨k + 1, by omega, rfl, by go_num, below_drewN HW.out _, .inr ⟨k, step_take HX.out HY.out HT.out HN.out HP.out HQ.out HL.out, rfl, rfl⟩⟩
            · have HL := Lib.hid hless
              have hd : decide ((y + 1) * p < (q + 1) * x) = false := decide_eq_false hless
              clear hless
              go_wp2_with fail
              go_quiet ((go_at_call 40; exact quiet_ret (TK.out _)))
              go_wp2_with fail
              go_quiet (fail)
              go_wp2_with fail
              go_roundg (min ws.length hs.length - (k + 1))
              case measure => have := HG.out; omega
              case rel => exact ⟨k + 1, by omega, rfl, by go_num, below_drewN HW.out _, .inr ⟨b, step_stay HX.out HY.out HT.out HN.out HP.out HQ.out (Int.not_lt.2 HL.out), rfl, rfl⟩⟩
        · have HT := Lib.hid (show takesB x y = false by simpa using ht)
          have TK := Lib.hid (fun W => takes_no x y W HT.out)
          clear ht
          have HST := Lib.hid hst
          clear hst
          go_wp2_with fail
          go_quiet ((go_at_call 40; exact quiet_ret (TK.out _)))
          go_wp2_with fail
          go_roundg (min ws.length hs.length - (k + 1))
          case measure => have := HG.out; omega
          case rel => exact ⟨k + 1, by omega, rfl, by go_num, below_drewN HW.out _, by rw [step_skip HX.out HY.out HT.out]; exact HST.out⟩
      · have ek := Lib.hid (show nextL ws hs = nextT ws hs k by unfold nextL; congr 1; omega)
        first
          | (have q : hs.length ≤ k := by omega
             rcases hst with ⟨hn, rfl, rfl⟩ | ⟨b, hn, rfl, rfl⟩
             all_goals
               have HN := Lib.hid hn
               clear hn hlt
               go_wp2_with fail
               go_ret2
               exact ⟨by rw [ek.out, HN.out]; rfl, HW.out⟩)
          | (have q : ws.length ≤ k := by omega
             rcases hst with ⟨hn, rfl, rfl⟩ | ⟨b, hn, rfl, rfl⟩
             all_goals
               have HN := Lib.hid hn
               clear hn hlt
               go_wp2_with fail
               go_ret2
               exact ⟨by rw [ek.out, HN.out]; rfl, HW.out⟩)

def RefNextRel (ws hs : List Int) (m : Nat) (w : World) (g : Nat) (s6 s7 : Value) (wr : World) : Prop :=
  ∃ k : Nat, k ≤ m ∧ g = m - k ∧ s7 = .int .i64 k ∧ Below w.heap.size w wr ∧
    ((nextT ws hs k = none ∧ s6 = .int .i64 (-1)) ∨ ∃ b : Nat, nextT ws hs k = some b ∧ s6 = .int .i64 b)
end Go.Proofs.Ytademjmnoncieaa
