/-
  Has and Total of the program, and Span.size.
  Conditions: none beyond what the slices read as.
-/
import Derived.Test.YtademjmnoncieaaNorm
set_option linter.unusedVariables false
namespace Go.Proofs.Ytademjmnoncieaa
open Go.RowKit

/-- A number is in a span. -/
def inS (x : Int) (s : Sp) : Bool := decide (s.1 ≤ x) && decide (x < s.2)
theorem any_has (ps : List Sp) (x : Int) : ps.any (inS x) = true ↔ hasS ps x := by
  rw [List.any_eq_true]
  constructor
  · rintro ⟨s, hs, h⟩
    unfold inS at h
    simp at h
    exact ⟨s, hs, h⟩
  · rintro ⟨s, hs, h⟩
    exact ⟨s, hs, by unfold inS; simp; exact h⟩
theorem any_congr {ps qs : List Sp} {x : Int} (h : hasS ps x ↔ hasS qs x) : ps.any (inS x) = qs.any (inS x) := by
  rw [Bool.eq_iff_iff, any_has, any_has]
  exact h

/-- How many numbers a span has, as the program reckons it. -/
def sizeW (s : Sp) : Int := IntKind.u64.wrap (IntKind.u64.wrap s.2 - IntKind.u64.wrap s.1)
theorem size_any (p : Sp) (w : World) : Calls Try.prog 44 #[.agg #[.int .i64 p.1, .int .i64 p.2]] w (RetB5 (.int .u64 (sizeW p)) w) := by
  obtain ⟨a, b⟩ := p
  simp only
  unfold sizeW
  simp only
  go_enter Try.func44, Try.ntmps44
  go_wp2
  go_ret
  exact ⟨rfl, (Below.refl _ _).alloc (Nat.le_refl _) _⟩

def totF (l : List Sp) : Int := l.foldl (fun n s => IntKind.u64.wrap (n + sizeW s)) 0
theorem totF_take {l : List Sp} {i : Nat} {y : Sp} (h : l[i]? = some y) : totF (l.take (i + 1)) = IntKind.u64.wrap (totF (l.take i) + sizeW y) := by
  unfold totF
  rw [take_succ_of h, List.foldl_append]
  rfl

set_option maxRecDepth 100000 in
set_option maxHeartbeats 2000000 in
theorem total_any (v : Value) (ps : List Sp) (w : World) (h : SpansAt w v ps) :
    Calls Try.prog 34 #[v] w (RetB5 (.int .u64 (totF (normT ps))) w) := by
  have HC := Lib.hid (norm_any v ps w h)
  have HS := Lib.hid (fun (p : Sp) (W : World) => size_any p W)
  generalize normT ps = r at *
  clear h
  go_enter Try.func34, Try.ntmps34
  go_wp2_with fail
  refine HC.out.mono ?_
  rintro e w1 ⟨v1, rfl, hat1, hb1⟩
  obtain ⟨A, c, rfl, hc1, hlen, hc2, hat⟩ := hat1
  have HAT := Lib.hid hat
  have HB1 := Lib.hid hb1
  generalize hn : r.length = n at *
  have HN := Lib.hid hn
  clear hat hn hb1 HC
  go_wp2_with fail
  go_loopg [3, 5, 9] n (fun gg s3 _ s9 wr => ∃ i : Nat, i ≤ n ∧ gg = n - i ∧ s9 = .int .i64 i ∧ s3 = .int .u64 (totF (r.take i)) ∧ Below w1.heap.size w1 wr)
  case atStart => exact ⟨0, Nat.zero_le _, by omega, rfl, rfl, Below.refl _ _⟩
  case round =>
    obtain ⟨i, hin, hgg, rfl, rfl, hbw⟩ := hrel
    have HG := Lib.hid hgg
    have HB := Lib.hid hbw
    clear hgg hbw
    by_cases hlt : i < n
    · have hltz : (i : Int) < (n : Int) := by omega
      obtain ⟨b, off, hA, hbl, hcell⟩ := HAT.out (by omega)
      subst hA
      obtain ⟨y, hy⟩ := ex_at5 (xs := r) (k := i) (by rw [HN.out]; exact hlt)
      obtain ⟨c1, c2⟩ := (hcell i y hy).keep HB.out hbl
      have HY := Lib.hid (totF_take hy)
      have HSY := Lib.hid (fun W => HS.out y W)
      clear hcell hy
      generalize totF (r.take i) = t at *
      generalize sizeW y = z at *
      obtain ⟨y1, y2⟩ := y
      simp only at c1 c2 HSY
      have hsz := HB.out.size
      go_wp2_with (go_at_call 44; refine (HSY.out _).mono ?_; rintro e w' ⟨rfl, hb'⟩)
      go_roundg (n - (i + 1))
      case measure => have := HG.out; omega
      case rel =>
        exact ⟨i + 1, by omega, rfl, by go_num, by rw [HY.out], (HB.out.alloc hsz _).trans (hb'.mono (by simp; omega))⟩
    · have hin' : i = n := by omega
      subst hin'
      have hltz : ¬ (i : Int) < (i : Int) := by omega
      have HR := Lib.hid (show r.take i = r by rw [← HN.out, List.take_length])
      go_wp2
      go_ret
      exact ⟨by rw [HR.out]; rfl, HB1.out.trans (HB.out.mono HB1.out.size)⟩
end Go.Proofs.Ytademjmnoncieaa
