/-
  The program's hasTwice; the document's Alone of a row.
  Conditions: no more than 1000 numbers.
-/
import Derived.Test.YtaffcpjhaacadaaSorted
import Derived.Test.YtaffcpjhaacadaaEqual
set_option linter.unusedVariables false
namespace Go.Proofs.Ytaffcpjhaacadaa
open Go.RowKit

/-- Nobody but 0 stands twice. -/
def AloneP (xs : List Int) : Prop := xs.Pairwise (fun a b => a = b → a = 0)
instance (xs : List Int) : Decidable (AloneP xs) := by unfold AloneP; exact inferInstance
def aloneB (xs : List Int) : Bool := decide (AloneP xs)
theorem sortI_order (xs : List Int) : (sortI xs).Pairwise (fun a b => a ≤ b) := by
  have h := List.pairwise_mergeSort (le := fun x y : Int => decide (x ≤ y)) (fun a b c h1 h2 => by simp at *; omega) (fun a b => by simp; omega) xs
  exact h.imp (fun h => by simpa using h)
theorem sortI_alone (xs : List Int) : AloneP (sortI xs) ↔ AloneP xs :=
  (List.mergeSort_perm xs _).pairwise_iff (fun {x y} h e => by rw [e]; exact h e.symm)
theorem adj_alone {S : List Int} (hs : S.Pairwise (fun a b => a ≤ b)) (h : ∀ (i : Nat) (x : Int), S[i]? = some x → S[i + 1]? = some x → x = 0) : AloneP S := by
  unfold AloneP
  rw [List.pairwise_iff_getElem] at *
  intro i j hi hj hij e
  have h1 := hs i (i + 1) hi (by omega) (by omega)
  have h2 : S[i + 1]'(by omega) ≤ S[j] := by
    rcases Nat.lt_or_ge (i + 1) j with h' | h'
    · exact hs (i + 1) j (by omega) hj h'
    · have : j = i + 1 := by omega
      subst this
      exact Int.le_refl _
  refine h i S[i] (List.getElem?_eq_getElem hi) ?_
  rw [List.getElem?_eq_getElem (show i + 1 < S.length by omega)]
  congr 1
  omega
theorem not_alone {S : List Int} {i k : Nat} {x : Int} (hik : k < i) (h1 : S[k]? = some x) (h2 : S[i]? = some x) (h0 : x ≠ 0) : ¬ AloneP S := by
  intro h
  unfold AloneP at h
  rw [List.pairwise_iff_getElem] at h
  obtain ⟨l1, e1⟩ := List.getElem?_eq_some_iff.1 h1
  obtain ⟨l2, e2⟩ := List.getElem?_eq_some_iff.1 h2
  have := h k i l1 l2 hik (by rw [e1, e2])
  rw [e1] at this
  exact h0 this
theorem all_alone {S : List Int} (h : ∀ (i k : Nat) (x : Int), k < i → S[i]? = some x → S[k]? = some x → x = 0) : AloneP S := by
  unfold AloneP
  rw [List.pairwise_iff_getElem]
  intro i j hi hj hij e
  exact h j i _ hij (by rw [List.getElem?_eq_getElem hj, e]) (List.getElem?_eq_getElem hi)

set_option maxRecDepth 100000 in
set_option maxHeartbeats 4000000 in
theorem hasTwice_any (v : Value) (xs : List Int) (w : World) (hv : IntsAt w v xs) (hl : xs.length ≤ 1000) : Calls Try.prog 33 #[v] w (RetB (.bool (!aloneB xs)) w) := by
  have HV := Lib.hid hv
  obtain ⟨A, c, rfl, _⟩ := hv
  have HB1 := Lib.hid (below_new (W := w) (.cells #[.slice A xs.length c] 39))
  have HBX := Lib.hid (Boxed.new w 39 (.slice A xs.length c)).cell
  have HSZ := Lib.hid (World.size_alloc w (.cells #[.slice A xs.length c] 39))
  obtain ⟨Bs, hBs⟩ : ∃ Bs, Bs = w.heap.size := ⟨_, rfl⟩
  have HBS := Lib.hid hBs
  rw [← hBs] at HBX
  have HSI := Lib.hid (sortI_order xs)
  have HSA := Lib.hid (sortI_alone xs)
  have hsl := sortI_length xs
  have HALB := Lib.hid (show aloneB xs = decide (AloneP xs) from rfl)
  generalize aloneB xs = R at *
  go_enter Try.func33, Try.ntmps33
  go_wp2_with fail
  refine (values_any A xs.length c w).mono ?_
  rintro e w' ⟨rfl, rfl⟩
  rw [← hBs]
  clear hBs
  generalize w.alloc (.cells #[.slice A xs.length c] 39) = w1 at *
  have HC := Lib.hid (sorted_any Bs (.slice A xs.length c) xs hl w1 (by have := HSZ.out; have := HBS.out; omega) HBX.out (IntsB.of (HV.out.keep HB1.out)))
  go_wp2_with fail
  refine HC.out.mono ?_
  rintro e w2 ⟨A2, c2, rfl, hi2, hb2⟩
  have HB2 := Lib.hid (HB1.out.trans (hb2.mono HB1.out.size))
  generalize sortI xs = S at *
  have HI2 := Lib.hid hi2
  generalize hn : xs.length = n at *
  have HSL := Lib.hid hsl
  have hn1000 : n ≤ 1000 := hl
  clear hi2 hb2 hsl hl hn HC HV HBX
  go_wp2_with fail
  go_loopg [4] (n - 1) (fun g s4 wr => ∃ m : Nat, 1 ≤ m ∧ (m ≤ n ∨ m = 1) ∧ g = n - m ∧ s4 = .int .i64 m ∧ (∀ (i : Nat) (x : Int), i + 1 < m → S[i]? = some x → S[i + 1]? = some x → x = 0) ∧ ∃ q, wr = w2.drewN q)
  case atStart => exact ⟨1, Nat.le_refl _, .inr rfl, rfl, rfl, fun i x h => by omega, 0, rfl⟩
  case round =>
    obtain ⟨m, hm1, hmn, hg, rfl, hall, q, hq⟩ := hrel
    have HQ := Lib.hid hq
    clear hq
    have HG := Lib.hid hg
    have HALL := Lib.hid hall
    clear hg hall
    by_cases hlt : m < n
    · have hltz : (m : Int) < (n : Int) := by omega
      obtain ⟨p, hp⟩ : ∃ p, p = m - 1 := ⟨_, rfl⟩
      have HP := Lib.hid (show m = p + 1 by omega)
      have hpz : (m : Int) - 1 = (p : Int) := by omega
      have hpn : (p : Int) < (n : Int) := by omega
      have hp0 : (0 : Int) ≤ (p : Int) := by omega
      obtain ⟨y, hy⟩ := exI_at (xs := S) (k := m) (by have := HSL.out; omega)
      obtain ⟨z, hz⟩ := exI_at (xs := S) (k := p) (by have := HSL.out; omega)
      obtain ⟨A3, c3, e3, _, hat⟩ := HI2.out
      injection e3 with e31 e32 e33
      obtain ⟨b, off, hA, hbl, hcell⟩ := hat (by have := HSL.out; omega)
      rw [hA] at e31
      subst e31
      have hcy : wr.cell? ⟨b, off + m, none⟩ = some (.int .i64 y) := by rw [HQ.out]; exact hcell m y hy
      have hcz : wr.cell? ⟨b, off + p, none⟩ = some (.int .i64 z) := by rw [HQ.out]; exact hcell p z hz
      have HY := Lib.hid hy
      have HZ := Lib.hid hz
      have hpw : IntKind.i64.wrap (p : Int) = (p : Int) := IntWalk.i64_in _ (by omega)
      clear hat hcell hy hz e32 e33 hA hbl hp hmn
      by_cases hy0 : y = 0
      · have hy1 : (y != 0) = false := by simpa using hy0
        have hy2 : (y == 0) = true := by simpa using hy0
        have HY0 := Lib.hid hy0
        clear hy0
        go_wp2_with fail
        go_quiet (fail)
        go_wp2_with fail
        go_roundg (n - (m + 1))
        case measure => have := HG.out; omega
        case rel =>
          refine ⟨m + 1, by omega, .inl (by omega), rfl, by go_num, fun i x hi h1 h2 => ?_, _, by rw [HQ.out, World.drewN_drewN]⟩
          by_cases e : i + 1 = m
          · rw [e, HY.out] at h2
            rw [← Option.some.inj h2]
            exact HY0.out
          · exact HALL.out i x (by omega) h1 h2
      · have hy1 : (y != 0) = true := by simpa using hy0
        have hy2 : (y == 0) = false := by simpa using hy0
        have HY0 := Lib.hid hy0
        clear hy0
        by_cases hyz : y = z
        · have he1 : (y == z) = true := by simpa using hyz
          have he2 : (y != z) = false := by simpa using hyz
          have HR := Lib.hid (show true = !R by
            rw [HALB.out, decide_eq_false]
            · rfl
            · intro h
              refine not_alone (k := p) (i := m) (by have := HP.out; omega) HZ.out ?_ (fun e => HY0.out (hyz.trans e)) (HSA.out.2 h)
              rw [HY.out, hyz])
          clear hyz
          go_wp2_with fail
          go_quiet (fail)
          go_wp2_with fail
          go_ret
          exact ⟨ret_bool HR.out, by rw [HQ.out]; exact below_drewN (below_drewN HB2.out _) _⟩
        · have he1 : (y == z) = false := by simpa using hyz
          have he2 : (y != z) = true := by simpa using hyz
          have HYZ := Lib.hid hyz
          clear hyz
          go_wp2_with fail
          go_quiet (fail)
          go_wp2_with fail
          go_roundg (n - (m + 1))
          case measure => have := HG.out; omega
          case rel =>
            refine ⟨m + 1, by omega, .inl (by omega), rfl, by go_num, fun i x hi h1 h2 => ?_, _, by rw [HQ.out, World.drewN_drewN]⟩
            by_cases e : i + 1 = m
            · have e' : i = p := by have := HP.out; omega
              rw [e, HY.out] at h2
              rw [e', HZ.out] at h1
              exact absurd ((Option.some.inj h2).trans (Option.some.inj h1).symm) HYZ.out
            · exact HALL.out i x (by omega) h1 h2
    · have hltz : ¬ (m : Int) < (n : Int) := by omega
      have HR := Lib.hid (show false = !R by
        rw [HALB.out, decide_eq_true]
        · rfl
        · refine HSA.out.1 (adj_alone HSI.out (fun i x h1 h2 => ?_))
          have := (List.getElem?_eq_some_iff.1 h2).1
          have := HSL.out
          exact HALL.out i x (by omega) h1 h2)
      go_wp2_with fail
      go_ret
      exact ⟨ret_bool HR.out, by rw [HQ.out]; exact below_drewN HB2.out _⟩

set_option maxRecDepth 100000 in
set_option maxHeartbeats 2000000 in
theorem refAlone_any (v : Value) (xs : List Int) (w : World) (hv : IntsAt w v xs) : Calls Try.prog 16 #[v] w (RetD (.bool (aloneB xs)) w) := by
  have HV := Lib.hid hv
  obtain ⟨A, c, rfl, hl, _⟩ := hv
  have HALB := Lib.hid (show aloneB xs = decide (AloneP xs) from rfl)
  generalize aloneB xs = R at *
  generalize hn : xs.length = n at *
  have HN := Lib.hid hn
  clear hn
  go_enter Try.func16, Try.ntmps16
  go_wp2_with fail
  go_loopg [3] n (fun g s3 wr => ∃ m : Nat, m ≤ n ∧ g = n - m ∧ s3 = .int .i64 m ∧ (∀ (i k : Nat) (x : Int), i < m → k < i → xs[i]? = some x → xs[k]? = some x → x = 0) ∧ ∃ q, wr = w.drewN q)
  case atStart => exact ⟨0, Nat.zero_le _, rfl, rfl, fun i k x h => by omega, 0, rfl⟩
  case round =>
    obtain ⟨m, hm, hg, rfl, hall, q, hq⟩ := hrel
    have HQ := Lib.hid hq
    clear hq
    have HG := Lib.hid hg
    have HALL := Lib.hid hall
    clear hg hall
    by_cases hlt : m < n
    · have hltz : (m : Int) < (n : Int) := by omega
      obtain ⟨y, hy⟩ := exI_at (xs := xs) (k := m) (by have := HN.out; omega)
      obtain ⟨A3, c3, e3, _, hat⟩ := HV.out
      injection e3 with e31 e32 e33
      obtain ⟨b, off, hA, hbl, hcell⟩ := hat (by have := HN.out; omega)
      rw [hA] at e31
      subst e31
      have HCE := Lib.hid hcell
      have HY := Lib.hid hy
      have HMN := Lib.hid hlt
      clear hat hcell hy e32 e33 hA hbl
      go_wp2_with fail
      go_loopg [4] m (fun g s4 wr => ∃ k : Nat, k ≤ m ∧ g = m - k ∧ s4 = .int .i64 k ∧ (∀ (j : Nat) (x : Int), j < k → xs[m]? = some x → xs[j]? = some x → x = 0) ∧ ∃ q, wr = w.drewN q)
      case atStart => exact ⟨0, Nat.zero_le _, rfl, rfl, fun j x h => by omega, _, HQ.out⟩
      case round =>
        obtain ⟨k, hk, hg2, rfl, hall2, q2, hq2⟩ := hrel
        have HQ2 := Lib.hid hq2
        clear hq2
        have HG2 := Lib.hid hg2
        have HALL2 := Lib.hid hall2
        clear hg2 hall2
        by_cases hlt2 : k < m
        · have hlt2z : (k : Int) < (m : Int) := by omega
          have hknz : (k : Int) < (n : Int) := by omega
          obtain ⟨z, hz⟩ := exI_at (xs := xs) (k := k) (by have := HN.out; omega)
          have HZ := Lib.hid hz
          have hcy : wr.cell? ⟨b, off + m, none⟩ = some (.int .i64 y) := by rw [HQ2.out]; exact HCE.out m y HY.out
          have hcz : wr.cell? ⟨b, off + k, none⟩ = some (.int .i64 z) := by rw [HQ2.out]; exact HCE.out k z hz
          clear hz
          by_cases hyz : y = z
          · have he1 : (y == z) = true := by simpa using hyz
            have he2 : (y != z) = false := by simpa using hyz
            by_cases hy0 : y = 0
            · have hy1 : (y != 0) = false := by simpa using hy0
              have hy2 : (y == 0) = true := by simpa using hy0
              have HY0 := Lib.hid hy0
              clear hyz hy0
              go_wp2_with fail
              go_quiet (fail)
              go_wp2_with fail
              go_roundg (m - (k + 1))
              case measure => have := HG2.out; omega
              case rel =>
                refine ⟨k + 1, by omega, rfl, by go_num, fun j x hj h1 h2 => ?_, _, by rw [HQ2.out, World.drewN_drewN]⟩
                by_cases e : j = k
                · rw [HY.out] at h1
                  rw [← Option.some.inj h1]
                  exact HY0.out
                · exact HALL2.out j x (by omega) h1 h2
            · have hy1 : (y != 0) = true := by simpa using hy0
              have hy2 : (y == 0) = false := by simpa using hy0
              have HR := Lib.hid (show false = R by
                rw [HALB.out, decide_eq_false]
                intro h
                refine not_alone (k := k) (i := m) hlt2 HZ.out ?_ (fun e => hy0 (hyz.trans e)) h
                rw [HY.out, hyz])
              clear hyz hy0
              go_wp2_with fail
              go_quiet (fail)
              go_wp2_with fail
              go_ret
              exact ⟨ret_bool HR.out, _, by rw [HQ2.out, World.drewN_drewN]⟩
          · have he1 : (y == z) = false := by simpa using hyz
            have he2 : (y != z) = true := by simpa using hyz
            have HYZ := Lib.hid hyz
            clear hyz
            go_wp2_with fail
            go_quiet (fail)
            go_wp2_with fail
            go_roundg (m - (k + 1))
            case measure => have := HG2.out; omega
            case rel =>
              refine ⟨k + 1, by omega, rfl, by go_num, fun j x hj h1 h2 => ?_, _, by rw [HQ2.out, World.drewN_drewN]⟩
              by_cases e : j = k
              · rw [HY.out] at h1
                rw [e, HZ.out] at h2
                exact absurd ((Option.some.inj h1).trans (Option.some.inj h2).symm) HYZ.out
              · exact HALL2.out j x (by omega) h1 h2
        · have hlt2z : ¬ (k : Int) < (m : Int) := by omega
          go_wp2_with fail
          go_roundg (n - (m + 1))
          case measure => have := HG.out; omega
          case rel =>
            refine ⟨m + 1, by have := HMN.out; omega, rfl, by go_num, fun i j x hi hj h1 h2 => ?_, _, HQ2.out⟩
            by_cases e : i = m
            · rw [e] at h1 hj
              exact HALL2.out j x (by omega) h1 h2
            · exact HALL.out i j x (by omega) hj h1 h2
    · have hltz : ¬ (m : Int) < (n : Int) := by omega
      have HR := Lib.hid (show true = R by
        rw [HALB.out, decide_eq_true]
        refine all_alone (fun i k x hik h1 h2 => ?_)
        have := (List.getElem?_eq_some_iff.1 h1).1
        have := HN.out
        exact HALL.out i k x (by omega) hik h1 h2)
      go_wp2_with fail
      go_ret
      exact ⟨ret_bool HR.out, _, HQ.out⟩
end Go.Proofs.Ytaffcpjhaacadaa
