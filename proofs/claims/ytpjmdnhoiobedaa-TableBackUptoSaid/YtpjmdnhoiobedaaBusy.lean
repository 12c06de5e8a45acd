/-
  Busy of the program, At of the document.
  Conditions: the slice reads as tables.
-/
import Derived.Test.YtpjmdnhoiobedaaTabAt
set_option linter.unusedVariables false
set_option linter.unusedSimpArgs false
namespace Go.Proofs.Ytpjmdnhoiobedaa
open Go.RowKit Go.Sort

theorem busy_snoc {l : List Tb} {k : Nat} {x : Tb} (hx : l[k]? = some x) (t : Int) : busyT (l.take (k + 1)) t = busyT (l.take k) t ++ (if ownerT x t = 0 then [] else [ownerT x t]) := by
  rw [List.take_add_one, hx]
  unfold busyT
  rw [Option.toList_some, List.map_append, List.filter_append]
  congr 1
  by_cases h : ownerT x t = 0 <;> simp [h]
theorem busy_le (l : List Tb) (t : Int) : (busyT l t).length ≤ l.length := by
  unfold busyT
  refine Nat.le_trans (List.length_filter_le _ _) ?_
  rw [List.length_map]
  exact Nat.le_refl _

set_option maxRecDepth 100000 in
set_option maxHeartbeats 4000000 in
theorem busy_any (v : Value) (l : List Tb) (t : Int) (w : World) (h : TabsAt w v l) (hl : l.length ≤ 1000) (ht : Int64 t) :
    Calls Try.prog 19 #[v, .int .i64 t] w (RetL (busyT l t) w) := by
  obtain ⟨i0, hi, hz0, hz1, hz2⟩ := info_parts Try.infoInt
  obtain ⟨A, cA, rfl, hlc, hcm⟩ := h.form
  have HL := Lib.hid h
  obtain ⟨n, hn⟩ : ∃ n, l.length = n := ⟨_, rfl⟩
  rw [hn] at HL hl hlc ⊢
  have HN := Lib.hid hn
  have HT := Lib.hid ht
  clear h hn ht
  go_enter Try.func19, Try.ntmps19
  go_wp2_with fail
  go_loopg [5, 7, 8, 11] n (fun gg s5 _ _ s11 wr => ∃ k : Nat, k ≤ n ∧ gg = n - k ∧ s11 = .int .i64 k ∧ Below w.heap.size w wr ∧ wr.ownsRow w.heap.size 3 1 s5 (busyT (l.take k) t).length ((busyT (l.take k) t).map (Value.int .i64)))
  case atStart => exact ⟨0, Nat.zero_le _, by omega, rfl, Below.refl _ _, World.ownsRow_nil _ _ _ _⟩
  case round =>
    obtain ⟨k, hk, hg, rfl, hbw, hown⟩ := hrel
    have HG := Lib.hid hg
    have HBW := Lib.hid hbw
    have HO := Lib.hid hown
    have HLR := Lib.hid (HL.out.keep hbw)
    clear hg hbw hown
    by_cases hlt : k < n
    · have hk0 : (0 : Int) ≤ (k : Int) := by omega
      have hltz : (k : Int) < (n : Int) := by omega
      obtain ⟨x, hx⟩ := exP_at (xs := l) (k := k) (by rw [HN.out]; exact hlt)
      obtain ⟨b, off, A1, c1, A2, c2, hA, hbl, g0, g1, g2, hit, _⟩ := HLR.out.at_ hx
      subst hA
      obtain ⟨w2, B, hw2, hB, hBl, hb2, hbox⟩ := box_any wr #[.int .i64 x.c, .slice A1 x.ts.length c1, .slice A2 x.ws.length c2] 38
      obtain ⟨q0, q1, q2⟩ := three_heads hbox
      have HB2 := Lib.hid (HBW.out.trans (hb2.mono HBW.out.size))
      have HO2 := Lib.hid (own_below5 HO.out hb2)
      have HOW := Lib.hid (owner_any ((A1, c1), (A2, c2), x) t w2 (hit.keep hb2) HT.out)
      unfold tbA tV1 tV2 at HOW
      simp only at HOW
      have HSN := Lib.hid (busy_snoc hx t)
      have HLE := Lib.hid (show (busyT (l.take k) t).length ≤ 1000 from Nat.le_trans (busy_le _ _) (by rw [List.length_take]; omega))
      obtain ⟨u, hu⟩ : ∃ u, ownerT x t = u := ⟨_, rfl⟩
      rw [hu] at HOW HSN
      generalize hR : busyT (l.take k) t = R at *
      have HR := Lib.hid hR
      clear hx hit hu hb2 hbox hR
      go_wp2_with fail
      refine HOW.out.mono ?_
      rintro e w3 ⟨rfl, hb3⟩
      have HB3 := Lib.hid (HB2.out.trans (hb3.mono HB2.out.size))
      have HO3 := Lib.hid (own_below5 HO2.out hb3)
      clear hb3 g0 g1 g2 q0 q1 q2 hw2 hB
      by_cases hz : u = 0
      · have hu1 : (u != 0) = false := by simpa using hz
        rw [if_pos hz, List.append_nil] at HSN
        clear hz
        go_wp2_with fail
        go_roundg (n - (k + 1))
        case measure => have := HG.out; omega
        case rel => exact ⟨k + 1, by omega, rfl, by go_num, HB3.out, by rw [HSN.out]; exact HO3.out⟩
      · have hu1 : (u != 0) = true := by simpa using hz
        rw [if_neg hz] at HSN
        have hsz := HB3.out.size
        have hle := HLE.out
        clear hz
        go_wp2_with (at_builtin; refine wpList_append_own _ rfl _ _ 35 rfl w.heap.size 3 i0 (.int .i64 0) 1 8 Try.underlying35 hi hz0 hz1 hz2 rfl (by decide) _ _ _ rfl (HO3.out.alloc _) ⟨w3.heap.size, 0, none⟩ 1 1 [.int .i64 u] rfl rfl ?c1 ?c2 ?c3 ?c4 ?c5 ?_)
        case c1 =>
          intro j y hj
          rcases j with _ | j
          · simpa [Addr.add] using hj
          · simp at hj
        case c2 => intro y hy; simp at hy; subst hy; rfl
        case c3 => unfold maxLen; omega
        case c4 => omega
        case c5 => simp; omega
        intro v2 w4 hown2 hgrow _
        have HB4 := Lib.hid ((HB3.out.alloc hsz _).trans (below_grown4 hgrow (by simp; omega) (own_base4 HO3.out)))
        have HO4 := Lib.hid hown2
        clear hown2 hgrow hsz
        go_wp2_with fail
        go_roundg (n - (k + 1))
        case measure => have := HG.out; omega
        case rel =>
          refine ⟨k + 1, by omega, rfl, by go_num, HB4.out, ?_⟩
          have e := HO4.out
          rw [HSN.out, List.length_append, List.map_append]
          exact e
    · have hltz : ¬ (k : Int) < (n : Int) := by omega
      have HE := Lib.hid (show l.take k = l from List.take_of_length_le (by rw [HN.out]; omega))
      rw [HE.out] at HO
      have HR := Lib.hid (ints_of_own HO.out (by have := busy_le l t; rw [HN.out] at this; omega))
      go_wp2_with fail
      go_ret
      exact ⟨_, rfl, HR.out, HBW.out⟩

/-- The document's At. -/
def refAtT : List Tb → Int → Int → Int
  | [], _, _ => 0
  | x :: r, c, t => if x.c = c ∧ 0 ≤ t ∧ t < (x.ts.length : Int) then (x.ts[t.toNat]?).getD 0 else refAtT r c t
theorem refAtT_none {l : List Tb} {c t : Int} (h : ∀ x ∈ l, x.c ≠ c) : refAtT l c t = 0 := by
  induction l with
  | nil => rfl
  | cons x r ih =>
    rw [refAtT, if_neg (fun e => h x (by simp) e.1), ih fun y hy => h y (by simp [hy])]
theorem refAtT_eq {c t : Int} : ∀ {l : List Tb}, (l.map Tb.c).Nodup → refAtT l c t = atT l c t
  | [], _ => rfl
  | x :: r, h => by
    rw [List.map_cons, List.nodup_cons] at h
    rw [refAtT, atT]
    by_cases hc : x.c = c
    · rw [if_pos hc]
      unfold ownerT
      by_cases h0 : t < 0
      · rw [if_neg (by omega), if_pos h0]
        exact refAtT_none fun y hy e => h.1 (by rw [hc, ← e]; exact List.mem_map.2 ⟨y, hy, rfl⟩)
      · rw [if_neg h0]
        by_cases h1 : t < (x.ts.length : Int)
        · rw [if_pos ⟨hc, by omega, h1⟩]
        · rw [if_neg (by omega), List.getElem?_eq_none (by omega), Option.getD_none]
          exact refAtT_none fun y hy e => h.1 (by rw [hc, ← e]; exact List.mem_map.2 ⟨y, hy, rfl⟩)
    · rw [if_neg hc, if_neg (fun e => hc e.1)]
      exact refAtT_eq h.2

theorem refAt_step {l : List Tb} {k : Nat} {x : Tb} {c t R : Int} (hx : l[k]? = some x) (hR : refAtT (l.drop k) c t = R) :
    (x.c = c ∧ 0 ≤ t ∧ t < (x.ts.length : Int) → R = (x.ts[t.toNat]?).getD 0) ∧ (¬ (x.c = c ∧ 0 ≤ t ∧ t < (x.ts.length : Int)) → refAtT (l.drop (k + 1)) c t = R) := by
  obtain ⟨hk, hx'⟩ := List.getElem?_eq_some_iff.1 hx
  rw [← List.getElem_cons_drop hk, hx', refAtT] at hR
  constructor
  · intro h; rw [if_pos h] at hR; exact hR.symm
  · intro h; rw [if_neg h] at hR; exact hR

set_option maxRecDepth 100000 in
set_option maxHeartbeats 4000000 in
theorem refTabAt_any (v : Value) (l : List Tb) (c t : Int) (w : World) (h : TabsAt w v l) (hl : l.length ≤ 1000) (ht : Int64 t) :
    Calls Try.prog 18 #[v, .int .i64 c, .int .i64 t] w (RetB (.int .i64 (refAtT l c t)) w) := by
  obtain ⟨A, cA, rfl, hlc, hcm⟩ := h.form
  have HL := Lib.hid h
  obtain ⟨n, hn⟩ : ∃ n, l.length = n := ⟨_, rfl⟩
  rw [hn] at HL hl hlc ⊢
  have HN := Lib.hid hn
  obtain ⟨ht1, ht2⟩ := ht
  obtain ⟨R, hR⟩ : ∃ R, refAtT l c t = R := ⟨_, rfl⟩
  have HR0 := Lib.hid (show refAtT (l.drop 0) c t = R from hR)
  rw [hR]
  clear h hn hR
  go_enter Try.func18, Try.ntmps18
  go_wp2_with fail
  go_loopg [7] n (fun gg s7 wr => ∃ k : Nat, k ≤ n ∧ gg = n - k ∧ s7 = .int .i64 k ∧ Hid (refAtT (l.drop k) c t = R) ∧ wr = w)
  case atStart => exact ⟨0, Nat.zero_le _, by omega, rfl, HR0, rfl⟩
  case round =>
    obtain ⟨k, hk, hg, rfl, HR, rfl⟩ := hrel
    have HG := Lib.hid hg
    clear hg
    by_cases hlt : k < n
    · have hk0 : (0 : Int) ≤ (k : Int) := by omega
      have hltz : (k : Int) < (n : Int) := by omega
      obtain ⟨x, hx⟩ := exP_at (xs := l) (k := k) (by rw [HN.out]; exact hlt)
      obtain ⟨b, off, A1, c1, A2, c2, hA, hbl, g0, g1, g2, hit, _⟩ := HL.out.at_ hx
      subst hA
      have HST := Lib.hid (refAt_step hx HR.out)
      have HIT := Lib.hid hit
      obtain ⟨nt, hnt⟩ : ∃ nt, x.ts.length = nt := ⟨_, rfl⟩
      rw [hnt] at HST HIT g1
      have HNT := Lib.hid hnt
      clear hx hit hnt
      by_cases hc : x.c = c
      · have hc1 : (x.c == c) = true := by simpa using hc
        by_cases h0 : 0 ≤ t
        · obtain ⟨q, rfl⟩ : ∃ q : Nat, t = (q : Int) := ⟨t.toNat, by omega⟩
          by_cases h1 : q < nt
          · have h2 : (q : Int) < (nt : Int) := by omega
            have HE := Lib.hid (HST.out.1 ⟨hc, h0, h2⟩)
            obtain ⟨y, hy⟩ := exP_at (xs := x.ts) (k := q) (by rw [HNT.out]; exact h1)
            rw [Int.toNat_natCast, hy, Option.getD_some] at HE
            obtain ⟨A', c', e, _, h3⟩ := HIT.out
            obtain ⟨b1, off1, e4, hbl1, hcl⟩ := h3 (by rw [HNT.out]; omega)
            injection e with e1 e2 e3
            rw [e4] at e1
            subst e1
            have c0 := hcl q y hy
            clear h3 hcl hy e2 e3 e4 hc
            go_wp2_with fail
            go_ret
            exact ⟨ret_int HE.out.symm, Below.refl _ _⟩
          · have h2 : ¬ (q : Int) < (nt : Int) := by omega
            have HE := Lib.hid (HST.out.2 fun h => h2 h.2.2)
            clear hc
            go_wp2_with fail
            go_roundg (n - (k + 1))
            case measure => have := HG.out; omega
            case rel => exact ⟨k + 1, by omega, rfl, by go_num, HE, rfl⟩
        · have h2 : ¬ (t ≥ 0) := h0
          have HE := Lib.hid (HST.out.2 fun h => h0 h.2.1)
          clear hc
          go_wp2_with fail
          go_roundg (n - (k + 1))
          case measure => have := HG.out; omega
          case rel => exact ⟨k + 1, by omega, rfl, by go_num, HE, rfl⟩
      · have hc1 : (x.c == c) = false := by simpa using hc
        have HE := Lib.hid (HST.out.2 fun h => hc h.1)
        clear hc
        go_wp2_with fail
        go_roundg (n - (k + 1))
        case measure => have := HG.out; omega
        case rel => exact ⟨k + 1, by omega, rfl, by go_num, HE, rfl⟩
    · have hltz : ¬ (k : Int) < (n : Int) := by omega
      have HE : Hid (R = 0) := Lib.hid (by
        have h := HR.out
        rw [List.drop_eq_nil_of_le (by rw [HN.out]; omega)] at h
        exact h.symm)
      go_wp2_with fail
      go_ret
      exact ⟨ret_int HE.out.symm, Below.refl _ _⟩
end Go.Proofs.Ytpjmdnhoiobedaa
