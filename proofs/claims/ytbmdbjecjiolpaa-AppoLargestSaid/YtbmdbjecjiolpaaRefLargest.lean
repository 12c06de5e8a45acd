/-
  The document's answer to Largest, by definition: pick by pick.
  Conditions: weights and total that are right.
-/
import Derived.Test.YtbmdbjecjiolpaaAwake
set_option linter.unusedVariables false
namespace Go.Proofs.Ytbmdbjecjiolpaa
open Go.RowKit

def bRow (n : Nat) (f : Nat → Bool) : Array Value := ((List.range n).map fun i => Value.bool (f i)).toArray
def BoolAt (W : World) (g n : Nat) (f : Nat → Bool) : Prop := W.heap[g]? = some (.cells (bRow n f) 4 (0, 0))
theorem bRow_get (n : Nat) (f : Nat → Bool) (j : Nat) : (bRow n f)[j]? = if j < n then some (.bool (f j)) else none := by
  by_cases h : j < n
  · simp [bRow, h]
  · simp [bRow, h]
theorem BoolAt.cell {W : World} {g n : Nat} {f : Nat → Bool} (h : BoolAt W g n f) {j : Nat} (hj : j < n) : W.cell? ⟨g, j, none⟩ = some (.bool (f j)) := by
  rw [cell_of_row W g j _ _ (0, 0) h, bRow_get, if_pos hj]
theorem BoolAt.frozen {W : World} {g n : Nat} {f : Nat → Bool} (h : BoolAt W g n f) (j : Nat) : W.frozen? ⟨g, j, none⟩ = false := by
  unfold BoolAt at h
  simp [World.frozen?, h]
theorem BoolAt.drewN {W : World} {g n : Nat} {f : Nat → Bool} (h : BoolAt W g n f) (q : Nat) : BoolAt (W.drewN q) g n f := h
theorem BoolAt.far {W : World} {g n : Nat} {f : Nat → Bool} (h : BoolAt W g n f) {p : Addr} (hp : g ≠ p.block) (u : Value) : BoolAt (W.setCell p u) g n f := (Below.heap_setCell W p u g hp).trans h
theorem BoolAt.set_ {W : World} {g n : Nat} {f : Nat → Bool} (h : BoolAt W g n f) (j : Nat) (b : Bool) : BoolAt (W.setCell ⟨g, j, none⟩ (.bool b)) g n (fun k => if k = j then b else f k) := by
  have e : (bRow n f).setIfInBounds j (.bool b) = bRow n (fun k => if k = j then b else f k) := by
    apply Array.ext_getElem?
    intro k
    rw [Array.getElem?_setIfInBounds, bRow_get, bRow_get]
    have hs : (bRow n f).size = n := by simp [bRow]
    rw [hs]
    by_cases hk : j = k
    · subst hk
      rw [if_pos rfl]
      by_cases hj : j < n
      · rw [if_pos hj, if_pos hj, if_pos rfl]
      · rw [if_neg hj, if_neg hj]
    · rw [if_neg hk]
      by_cases hj : k < n
      · rw [if_pos hj, if_pos hj, if_neg (fun h => hk h.symm)]
      · rw [if_neg hj, if_neg hj]
  unfold BoolAt at h ⊢
  rw [← e]
  simp [World.setCell, Array.getElem?_modify, h]

theorem mk_bools (W : World) (n : Nat) (h : n ≤ 1000) : (Instr.makeSlice 44 (.int .i64 (n : Int)) (.int .i64 (n : Int))).run Try.prog W = .ok (.slice (some ⟨W.heap.size, 0, none⟩) n n) (W.alloc (.cells (bRow n fun _ => false) 4)) := by
  obtain ⟨i, hi, e⟩ := Option.map_eq_some_iff.1 Try.infoBool
  simp only [Prod.mk.injEq] at e
  obtain ⟨e1, e2, e3⟩ := e
  have hr := run_make (P := Try.prog) W 44 4 i (.bool false) Try.underlying44 hi e1 .i64 .i64 n n (by omega) (Int.le_refl _) (by rw [e3]; omega) (by omega)
  rw [hr, e2]
  simp only [Int.toNat_natCast, Nat.mul_one]
  congr 2
  rw [show (Value.bool false).cells = #[.bool false] from rfl, madeCells_one]
  congr 1
  apply Array.ext_getElem?
  intro j
  rw [bRow_get]
  by_cases hj : j < n <;> simp [hj]

/-- The best of the first i that are not picked yet. -/
def BestOf (key : Nat → Int) (t : Nat → Nat) (p i : Nat) (s : Value) : Prop :=
  (s = .int .i64 (-1) ∧ ∀ j, j < i → t j < p) ∨ ∃ b : Nat, s = .int .i64 b ∧ b < i ∧ p ≤ t b ∧ ∀ j, j < i → p ≤ t j → j = b ∨ bef key b j

theorem best_end {key : Nat → Int} {n : Nat} {d t : Nat → Nat} (hd : Done key n d) (hi : Inv n d t) {p : Nat} (hp : p < n) {s : Value} (h : BestOf key t p n s) : s = .int .i64 (d p : Nat) := by
  have hdp := hi.dn p hp
  have htd := hi.td p
  rcases h with ⟨_, h⟩ | ⟨b, rfl, hb, hpb, h⟩
  · have := h (d p) hdp; omega
  · rcases h (d p) hdp (by omega) with e | hbef
    · rw [e]
    · exfalso
      have hne : t b ≠ p := fun e => by
        have : d (t b) = b := hi.dt b
        rw [e] at this
        rw [this] at hbef
        exact hbef.irrefl
      have h2 := hd.2 p (t b) (Nat.zero_le _) (by omega) (hi.tn b hb)
      rw [hi.dt] at h2
      exact (hbef.trans h2).irrefl

theorem pick_next {d t : Nat → Nat} {n : Nat} (hi : Inv n d t) (p : Nat) : (fun k => if k = d p then true else decide (t k < p)) = fun k => decide (t k < p + 1) := by
  funext k
  by_cases e : k = d p
  · rw [if_pos e, e, hi.td]; simp
  · rw [if_neg e]
    have : t k ≠ p := fun h => e (by rw [← h, hi.dt])
    by_cases c : t k < p
    · rw [decide_eq_true c, decide_eq_true (show t k < p + 1 by omega)]
    · rw [decide_eq_false c, decide_eq_false (show ¬ t k < p + 1 by omega)]

def RefQRel (T : Int) (ws : List Int) (w : World) (q : Nat) (s8 s9 : Value) (wr : World) : Prop :=
  ∃ k : Nat, k ≤ ws.length ∧ q = ws.length - k ∧ s9 = .int .i64 k ∧ s8 = .int .i64 (T - sumT (qs T ws) k) ∧ Below w.heap.size w wr ∧ RowAt wr w.heap.size (fillT (qs T ws) k) ∧ BoolAt wr (w.heap.size + 1) ws.length (fun _ => false)
def RefPRel (T : Int) (ws : List Int) (d t : Nat → Nat) (m : Nat) (w : World) (q : Nat) (s8 : Value) (wr : World) : Prop :=
  ∃ p : Nat, p ≤ m ∧ q = m - p ∧ s8 = .int .i64 ((m - p : Nat) : Int) ∧ Below w.heap.size w wr ∧ RowAt wr w.heap.size (ad (qs T ws) d p) ∧ BoolAt wr (w.heap.size + 1) ws.length (fun k => decide (t k < p))
def RefIRel (key : Nat → Int) (t : Nat → Nat) (n p : Nat) (w0 : World) (q : Nat) (s10 s11 : Value) (wr : World) : Prop :=
  ∃ i c : Nat, i ≤ n ∧ q = n - i ∧ s11 = .int .i64 i ∧ BestOf key t p i s10 ∧ wr = w0.drewN c

section
variable {key : Nat → Int} {t : Nat → Nat} {p i : Nat} {s : Value}
theorem best_skip (h : BestOf key t p i s) (ht : t i < p) : BestOf key t p (i + 1) s := by
  rcases h with ⟨rfl, h⟩ | ⟨b, rfl, hb, hpb, h⟩
  · exact .inl ⟨rfl, fun j hj => by
      rcases Nat.lt_or_ge j i with h1 | h1
      · exact h j h1
      · obtain rfl : j = i := by omega
        exact ht⟩
  · exact .inr ⟨b, rfl, by omega, hpb, fun j hj hpj => by
      rcases Nat.lt_or_ge j i with h1 | h1
      · exact h j h1 hpj
      · obtain rfl : j = i := by omega
        omega⟩
theorem best_first (h : ∀ j, j < i → t j < p) (ht : p ≤ t i) : BestOf key t p (i + 1) (.int .i64 i) :=
  .inr ⟨i, rfl, by omega, ht, fun j hj hpj => by
    rcases Nat.lt_or_ge j i with h1 | h1
    · have := h j h1; omega
    · exact .inl (by omega)⟩
theorem best_take {b : Nat} (h : ∀ j, j < i → p ≤ t j → j = b ∨ bef key b j) (ht : p ≤ t i) (hk : key b < key i) : BestOf key t p (i + 1) (.int .i64 i) :=
  .inr ⟨i, rfl, by omega, ht, fun j hj hpj => by
    rcases Nat.lt_or_ge j i with h1 | h1
    · rcases h j h1 hpj with rfl | h2
      · exact .inr (bef_lt hk)
      · exact .inr ((bef_lt hk).trans h2)
    · exact .inl (by omega)⟩
theorem best_stay {b : Nat} (hb : b < i) (hpb : p ≤ t b) (h : ∀ j, j < i → p ≤ t j → j = b ∨ bef key b j) (hk : ¬ key b < key i) : BestOf key t p (i + 1) (.int .i64 b) :=
  .inr ⟨b, rfl, by omega, hpb, fun j hj hpj => by
    rcases Nat.lt_or_ge j i with h1 | h1
    · exact h j h1 hpj
    · obtain rfl : j = i := by omega
      exact .inr (bef_tag hk hb)⟩
end

set_option maxRecDepth 100000 in
set_option maxHeartbeats 4000000 in
theorem refLargest_ok (T : Int) (ws : List Int) (v : Value) (w : World) (hv : IntsAt w v ws) (h : AllRight T ws) (d : Nat → Nat) (m : Nat) (hm : (m : Int) = T - sumL (qs T ws)) (hd : Done (fun i => (rs T ws).getD i 0) ws.length d) :
    Calls Try.prog 15 #[.int .i64 T, v] w (RetI (ad (qs T ws) d m) w) := by
  obtain ⟨h0, h1, hr⟩ := h
  have HS := refSum_any ws v w hv hr.small
  obtain ⟨V0, V1⟩ := hr.sumBound
  obtain ⟨V, hVV⟩ : ∃ V, V = sumL ws := ⟨_, rfl⟩
  rw [← hVV] at V0 V1 HS
  have HS := Lib.hid HS
  have HVV := Lib.hid hVV
  have HR := Lib.hid hr
  have HM := Lib.hid hm
  have HD := Lib.hid hd
  obtain ⟨t, hinv⟩ := hd.inv
  have HINV := Lib.hid hinv
  have hmn := left_lt hr hm
  have HSM := Lib.hid (qs_small hr h0 h1)
  have l64 := hr.1
  have l0 := hr.pos
  obtain ⟨A, c, rfl, hl, hat⟩ := hv
  have HV := Lib.hid hat
  have hmk := Lib.hid (fun W => mk_ints W ws.length (by omega))
  have hmb := Lib.hid (fun W => mk_bools W ws.length (by omega))
  have hmk := hmk.out
  have hmb := hmb.out
  clear hr hVV hm hd hinv hat hl
  go_enter Try.func15, Try.ntmps15
  go_wp2_with (go_at_call 16; refine HS.out.mono ?_; rintro e w' ⟨rfl, rfl⟩)
  clear hmk hmb
  go_loopg [8, 9] ws.length (fun q s8 s9 wr => RefQRel T ws w q s8 s9 wr)
  case atStart =>
    refine ⟨0, Nat.zero_le _, rfl, rfl, by rw [sumT_zero, Int.sub_zero], ((Below.refl _ _).alloc (Nat.le_refl _) _).alloc (by simp) _, ?_, ?_⟩
    · rw [fillT_zero, length_qs]; exact (RowAt.new _ _).alloc _
    · have := heap_alloc_new (w.alloc (.cells (rowOf (zeros ws.length)) 3)) (.cells (bRow ws.length fun _ => false) 4)
      rw [World.size_alloc] at this
      exact this
  case round =>
    obtain ⟨k, hk, hq, rfl, rfl, hbw, hrow, hbool⟩ := hrel
    have HQ := Lib.hid hq
    have HW := Lib.hid hbw
    have HRow := Lib.hid hrow
    have HBool := Lib.hid hbool
    clear hq hbw hrow hbool
    by_cases hlt : k < ws.length
    · obtain ⟨x, hx⟩ := ex_at hlt
      obtain ⟨x1, x2⟩ := HR.out.at hx
      obtain ⟨b, off, rfl, hb, hc⟩ := HV.out (by omega)
      have hck : wr.cell? ⟨b, off + k, none⟩ = some (.int .i64 x) := (HW.out.cell (p := ⟨b, off + k, none⟩) hb).trans (hc k x hx)
      have hc1 : wr.cell? ⟨w.heap.size, k, none⟩ = some (.int .i64 0) := HRow.out.cell (by rw [fillT_get, if_neg (by omega), if_pos (by rw [length_qs]; exact hlt)])
      have hf1 := HRow.out.frozen k
      have p0 : 0 ≤ T * x := Int.mul_nonneg h0 x1
      have p1 : T * x ≤ 1048576 * 1000 := Int.mul_le_mul h1 x2 x1 (by omega)
      have p2 : T * x ≤ 1048576000 := by omega
      have d0 : 0 ≤ T * x / V := Int.ediv_nonneg p0 (Int.le_of_lt V0)
      have d1 : T * x / V ≤ 1048576000 := by have := Int.ediv_le_self V p0; omega
      have hqk := qs_at (T := T) hx
      rw [← HVV.out] at hqk
      have HQK := Lib.hid hqk
      obtain ⟨s, hs⟩ : ∃ s, s = sumT (qs T ws) k := ⟨_, rfl⟩
      obtain ⟨s1, s2⟩ := HSM.out.bound (k := k) (by rw [length_qs]; omega)
      rw [← hs] at s1 s2 ⊢
      have HSS := Lib.hid hs
      have hnew := Lib.hid (HRow.out.set_ k (T * x / V))
      have hnew2 := Lib.hid (show BoolAt (wr.setCell ⟨w.heap.size, k, none⟩ (.int .i64 (T * x / V))) (w.heap.size + 1) ws.length (fun _ => false) from HBool.out.far (p := ⟨w.heap.size, k, none⟩) (by simp) _)
      clear hx hc hqk hs p1
      go_wp2_with fail
      go_roundg (ws.length - (k + 1))
      case measure => have := HQ.out; omega
      case rel =>
        refine ⟨k + 1, by omega, rfl, by go_num, ?_, HW.out.setCell (Nat.le_refl _) _, ?_, hnew2.out⟩
        · rw [sumT_succ HQK.out, ← HSS.out]
          first | (congr 1; omega) | (exact congrArg _ (by omega))
        · have := hnew.out
          rwa [fillT_set HQK.out] at this
    · obtain rfl : k = ws.length := by omega
      have hall : T - sumT (qs T ws) ws.length = (m : Int) := by
        rw [sumT_all (by rw [length_qs]; exact Nat.le_refl _)]
        exact HM.out.symm
      rw [hall]
      have HRow2 : Hid (RowAt wr w.heap.size (qs T ws)) := by
        have := HRow.out
        rwa [show fillT (qs T ws) ws.length = qs T ws from by have := fillT_all (qs T ws); rwa [length_qs] at this] at this
      clear hall HRow
      go_wp2_with fail
      go_loopg [8] m (fun q s8 wr => RefPRel T ws d t m w q s8 wr)
      case atStart => exact ⟨0, Nat.zero_le _, rfl, rfl, HW.out, HRow2.out, by have := HBool.out; simpa using this⟩
      case round =>
        obtain ⟨p, hp, hq, rfl, hbw, hrow, hbool⟩ := hrel
        have HQP := Lib.hid hq
        have HWP := Lib.hid hbw
        have HRP := Lib.hid hrow
        have HBP := Lib.hid hbool
        clear hq hbw hrow hbool
        by_cases hpm : p < m
        · have hpn : p < ws.length := by omega
          have hpos : (0 : Int) < ((m - p : Nat) : Int) := by omega
          have hmpb : (((m - p : Nat) : Int)) ≤ 64 := by omega
          have tpos : decide (((m - p : Nat) : Int) > 0) = true := decide_eq_true (by omega)
          have tpos2 : decide (0 < m - p) = true := decide_eq_true (by omega)
          have tpos3 : 0 < m - p := by omega
          go_wp2_with fail
          go_loopg [10, 11] ws.length (fun q s10 s11 wx => RefIRel (fun i => (rs T ws).getD i 0) t ws.length p wr q s10 s11 wx)
          case atStart => exact ⟨0, 0, Nat.zero_le _, rfl, rfl, .inl ⟨rfl, fun j hj => by omega⟩, rfl⟩
          case round =>
            obtain ⟨i, cz, hin, hqi, rfl, hbest, hwz⟩ := hrel
            have HQI := Lib.hid hqi
            have HBEST := Lib.hid hbest
            have HWZ := Lib.hid hwz
            have hRz : RowAt wr w.heap.size (ad (qs T ws) d p) := by rw [hwz]; exact HRP.out.drewN cz
            have hBz : BoolAt wr (w.heap.size + 1) ws.length (fun k => decide (t k < p)) := by rw [hwz]; exact HBP.out.drewN cz
            have HRZ := Lib.hid hRz
            have HBZ := Lib.hid hBz
            have hbwz : Below w.heap.size w wr := by rw [hwz]; exact below_drewN HWP.out cz
            have HBW := Lib.hid hbwz
            clear hqi hwz hRz hbwz
            by_cases hil : i < ws.length
            · clear HQ HRow2 HBool HQP
              have HB1 := hBz.cell hil
              clear hBz
              obtain ⟨x, hx⟩ := ex_at hil
              obtain ⟨x1, x2⟩ := HR.out.at hx
              obtain ⟨ba, oa, rfl, ha, hca⟩ := HV.out (by omega)
              have CA := Lib.hid (fun (j : Nat) (z : Int) (h : ws[j]? = some z) => (HBW.out.cell (p := ⟨ba, oa + j, none⟩) ha).trans (hca j z h))
              have ck := CA.out i x hx
              clear hca
              by_cases htp : t i < p
              · rw [decide_eq_true htp] at HB1
                have HN := Lib.hid (best_skip hbest htp)
                clear hbest htp hx
                go_wp2_with fail
                go_quiet (fail)
                go_wp2_with fail
                go_roundg (ws.length - (i + 1))
                case measure => have := HQI.out; omega
                case rel => exact ⟨i + 1, cz + nq, by omega, rfl, by go_num, HN.out, by rw [HWZ.out, World.drewN_drewN]⟩
              · rw [decide_eq_false htp] at HB1
                have htp' : p ≤ t i := by omega
                rcases hbest with ⟨rfl, hall⟩ | ⟨b, rfl, hbi, hpb, hall⟩
                · have HN := Lib.hid (best_first (key := fun i => (rs T ws).getD i 0) hall htp')
                  clear hall htp htp' hx
                  go_wp2_with fail
                  go_quiet (fail)
                  go_wp2_with fail
                  go_roundg (ws.length - (i + 1))
                  case measure => have := HQI.out; omega
                  case rel => exact ⟨i + 1, cz + nq, by omega, rfl, by go_num, HN.out, by rw [HWZ.out, World.drewN_drewN]⟩
                · obtain ⟨xb, hxb⟩ := ex_at (xs := ws) (k := b) (by omega)
                  obtain ⟨xb1, xb2⟩ := HR.out.at hxb
                  have ckb := CA.out b xb hxb
                  have hbl : b < ws.length := by omega
                  have p0 : 0 ≤ T * x := Int.mul_nonneg h0 x1
                  have p1 : T * x ≤ 1048576 * 1000 := Int.mul_le_mul h1 x2 x1 (by omega)
                  have q0 : 0 ≤ T * xb := Int.mul_nonneg h0 xb1
                  have q1 : T * xb ≤ 1048576 * 1000 := Int.mul_le_mul h1 xb2 xb1 (by omega)
                  obtain ⟨ri, hri⟩ : ∃ r, r = T * x % V := ⟨_, rfl⟩
                  obtain ⟨rb, hrb⟩ : ∃ r, r = T * xb % V := ⟨_, rfl⟩
                  have kri : (rs T ws).getD i 0 = ri := by rw [getD_of (rs_at hx), ← HVV.out, hri]
                  have krb : (rs T ws).getD b 0 = rb := by rw [getD_of (rs_at hxb), ← HVV.out, hrb]
                  have ri0 : 0 ≤ ri := by rw [hri]; exact Int.emod_nonneg _ (by omega)
                  have ri1 : ri ≤ 64000 := by have := Int.emod_lt_of_pos (T * x) V0; omega
                  have rb0 : 0 ≤ rb := by rw [hrb]; exact Int.emod_nonneg _ (by omega)
                  have rb1 : rb ≤ 64000 := by have := Int.emod_lt_of_pos (T * xb) V0; omega
                  have e1 : IntKind.i64.wrap (T * x) = T * x := IntWalk.i64_in _ (by omega)
                  have e2 : IntKind.i64.wrap (T * xb) = T * xb := IntWalk.i64_in _ (by omega)
                  have e3 : (T * x).tmod V = ri := by rw [Int.tmod_eq_emod_of_nonneg p0, hri]
                  have e4 : (T * xb).tmod V = rb := by rw [Int.tmod_eq_emod_of_nonneg q0, hrb]
                  have e5 : IntKind.i64.wrap ri = ri := IntWalk.i64_in _ (by omega)
                  have e6 : IntKind.i64.wrap rb = rb := IntWalk.i64_in _ (by omega)
                  have e7 : T * x % V = ri := hri.symm
                  have e8 : T * xb % V = rb := hrb.symm
                  have eV : (V == 0) = false := by simp; omega
                  have eV2 : (V != 0) = true := by simp; omega
                  have eV3 : ¬ V = 0 := by omega
                  clear hx hxb hri hrb p1 q1
                  by_cases hk : rb < ri
                  · have HN := Lib.hid (best_take (key := fun i => (rs T ws).getD i 0) hall htp' (by show (rs T ws).getD b 0 < (rs T ws).getD i 0; rw [kri, krb]; exact hk))
                    have tk : decide (rb < ri) = true := decide_eq_true hk
                    clear hall htp htp' kri krb hk
                    go_wp2_with fail
                    go_quiet (fail)
                    go_wp2_with fail
                    go_roundg (ws.length - (i + 1))
                    case measure => have := HQI.out; omega
                    case rel => exact ⟨i + 1, cz + nq, by omega, rfl, by go_num, HN.out, by rw [HWZ.out, World.drewN_drewN]⟩
                  · have HN := Lib.hid (best_stay (key := fun i => (rs T ws).getD i 0) hbi hpb hall (by show ¬ (rs T ws).getD b 0 < (rs T ws).getD i 0; rw [kri, krb]; exact hk))
                    have tk : decide (rb < ri) = false := decide_eq_false hk
                    clear hall htp htp' kri krb hk
                    go_wp2_with fail
                    go_quiet (fail)
                    go_wp2_with fail
                    go_roundg (ws.length - (i + 1))
                    case measure => have := HQI.out; omega
                    case rel => exact ⟨i + 1, cz + nq, by omega, rfl, by go_num, HN.out, by rw [HWZ.out, World.drewN_drewN]⟩
            · obtain rfl : i = ws.length := by omega
              have he := best_end HD.out HINV.out hpn hbest
              subst he
              have hdn := HINV.out.dn p hpn
              obtain ⟨z, hz⟩ : ∃ z, z = d p := ⟨_, rfl⟩
              rw [← hz] at hdn ⊢
              obtain ⟨y, hy⟩ := ex_at (xs := ad (qs T ws) d p) (k := z) (by rw [length_ad, length_qs]; exact hdn)
              have hyb : 0 ≤ y ∧ y ≤ 1048576001 := by
                have e1 := ad_getD HINV.out (length_qs T ws) p (by omega) z hdn
                rw [getD_of hy, qs_getD] at e1
                have hb := HR.out.getD z
                have hP0 : 0 ≤ T * ws.getD z 0 := Int.mul_nonneg h0 hb.1
                have hP1 : T * ws.getD z 0 ≤ 1048576 * 1000 := Int.mul_le_mul h1 hb.2 hb.1 (by omega)
                have e2 : 0 ≤ T * ws.getD z 0 / sumL ws := Int.ediv_nonneg hP0 (Int.le_of_lt HR.out.2.2)
                have e3 : T * ws.getD z 0 / sumL ws ≤ T * ws.getD z 0 := Int.ediv_le_self _ hP0
                split at e1 <;> omega
              obtain ⟨y1, y2⟩ := hyb
              have c1 := HRZ.out.cell hy
              have f1 := HRZ.out.frozen z
              have c2 := HBZ.out.cell hdn
              have f2 := HBZ.out.frozen z
              have hnewR : Hid (RowAt ((wr.setCell ⟨w.heap.size + 1, z, none⟩ (.bool true)).setCell ⟨w.heap.size, z, none⟩ (.int .i64 (y + 1))) w.heap.size (ad (qs T ws) d (p + 1))) := by
                have := (HRZ.out.far (p := ⟨w.heap.size + 1, z, none⟩) (by simp) (.bool true)).set_ z (y + 1)
                have e : ad (qs T ws) d (p + 1) = (ad (qs T ws) d p).set z (y + 1) := by rw [ad]; simp only [bump]; rw [← hz, getD_of hy]
                rw [e]; exact this
              have hnewB : Hid (BoolAt ((wr.setCell ⟨w.heap.size + 1, z, none⟩ (.bool true)).setCell ⟨w.heap.size, z, none⟩ (.int .i64 (y + 1))) (w.heap.size + 1) ws.length (fun k => decide (t k < p + 1))) := by
                have := (HBZ.out.set_ z true).far (p := ⟨w.heap.size, z, none⟩) (by simp) (.int .i64 (y + 1))
                rw [hz] at this ⊢
                rwa [pick_next HINV.out p] at this
              have hsub := Lib.hid (show ((m - p : Nat) : Int) - 1 = ((m - (p + 1) : Nat) : Int) by omega)
              clear hz hy hbest hBz
              go_wp2_with fail
              rw [hsub.out]
              go_roundg (m - (p + 1))
              case measure => have := HQP.out; omega
              case rel => exact ⟨p + 1, by omega, rfl, rfl, (HBW.out.setCell (by simp) _).setCell (Nat.le_refl _) _, hnewR.out, hnewB.out⟩
        · obtain rfl : p = m := by omega
          have tpos : decide (((p - p : Nat) : Int) > 0) = false := decide_eq_false (by omega)
          have hzz : ((p - p : Nat) : Int) = 0 := by omega
          have HF : Hid (IntsAt wr (.slice (some ⟨w.heap.size, 0, none⟩) ws.length ws.length) (ad (qs T ws) d p)) := by
            have := HRP.out.ints (by rw [length_ad, length_qs]; omega) ws.length
            rwa [length_ad, length_qs] at this
          go_wp2_with fail
          go_ret
          exact ⟨_, rfl, HF.out, HWP.out⟩
end Go.Proofs.Ytbmdbjecjiolpaa
