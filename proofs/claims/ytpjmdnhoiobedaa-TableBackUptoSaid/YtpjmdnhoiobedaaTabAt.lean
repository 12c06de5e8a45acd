/-
  owner, count, Loose, At and Busy of the program, At of the document.
  Conditions: the slice reads as tables.
-/
import Derived.Test.YtpjmdnhoiobedaaRefOf
set_option linter.unusedVariables false
set_option linter.unusedSimpArgs false
namespace Go.Proofs.Ytpjmdnhoiobedaa
open Go.RowKit Go.Sort

/-- Whose a tick is, in a table. -/
def ownerT (x : Tb) (t : Int) : Int := if t < 0 then 0 else (x.ts[t.toNat]?).getD 0
def cntI (l : List Int) (e : Int) : Nat := l.countP fun x => decide (x = e)
/-- The first table of a core. -/
def atT : List Tb → Int → Int → Int
  | [], _, _ => 0
  | x :: r, c, t => if x.c = c then ownerT x t else atT r c t
def busyT (l : List Tb) (t : Int) : List Int := (l.map fun x => ownerT x t).filter fun u => !decide (u = 0)

set_option maxRecDepth 100000 in
set_option maxHeartbeats 2000000 in
theorem owner_any (r : Rt) (t : Int) (w : World) (h : IntsAt w (tV1 r) r.2.2.ts) (ht : Int64 t) :
    Calls Try.prog 38 #[tbA r, .int .i64 t] w (RetB (.int .i64 (ownerT r.2.2 t)) w) := by
  have HI := Lib.hid h
  obtain ⟨w1, P, hw1, hP, hPl, hb1, hbox⟩ := box_any w #[.int .i64 r.2.2.c, tV1 r, tV2 r] 38
  have HB1 := Lib.hid hb1
  obtain ⟨r0, r1, r2⟩ := three_heads hbox
  obtain ⟨ht1, ht2⟩ := ht
  unfold tbA
  unfold tV1 at *
  have hlen : r.2.2.ts.length ≤ 9223372036854775807 := by obtain ⟨_, _, _, h, _⟩ := HI.out; exact h
  obtain ⟨n, hn⟩ : ∃ n, r.2.2.ts.length = n := ⟨_, rfl⟩
  rw [hn] at HI hw1 r1 hlen ⊢
  have HN := Lib.hid hn
  have HOW := Lib.hid (show ownerT r.2.2 t = if t < 0 then 0 else (r.2.2.ts[t.toNat]?).getD 0 from rfl)
  clear h hb1 hbox hn
  by_cases h0 : t < 0
  · rw [if_pos h0] at HOW
    go_enter Try.func38, Try.ntmps38
    go_wp2_with fail
    go_ret
    exact ⟨ret_int HOW.out.symm, HB1.out⟩
  · rw [if_neg h0] at HOW
    obtain ⟨k, rfl⟩ : ∃ k : Nat, t = (k : Int) := ⟨t.toNat, by omega⟩
    rw [Int.toNat_natCast] at HOW
    by_cases hk : k < n
    · have hk1 : ¬ ((n : Int) ≤ (k : Int)) := by omega
      have hk2 : (k : Int) < (n : Int) := by omega
      have hk0 : (0 : Int) ≤ (k : Int) := by omega
      obtain ⟨q, hq⟩ := exP_at (xs := r.2.2.ts) (k := k) (by rw [HN.out]; exact hk)
      rw [hq, Option.getD_some] at HOW
      obtain ⟨A', c', e, _, h3⟩ := HI.out
      obtain ⟨b, off, e4, hbl, hc⟩ := h3 (by rw [HN.out]; omega)
      injection e with e1 e2 e3
      rw [e4] at e1
      rw [e1] at hw1 r1 ⊢
      have c0 := (HB1.out.cell (p := ⟨b, off + k, none⟩) hbl).trans (hc k q hq)
      clear h3 hc e2 e3 hq e4 e1
      go_enter Try.func38, Try.ntmps38
      go_wp2_with fail
      go_ret
      exact ⟨ret_int HOW.out.symm, HB1.out⟩
    · have hk1 : (n : Int) ≤ (k : Int) := by omega
      rw [List.getElem?_eq_none (by rw [HN.out]; omega), Option.getD_none] at HOW
      go_enter Try.func38, Try.ntmps38
      go_wp2_with fail
      go_ret
      exact ⟨ret_int HOW.out.symm, HB1.out⟩

theorem cnt_snoc {l : List Int} {k : Nat} {x : Int} (hx : l[k]? = some x) (e : Int) : cntI (l.take (k + 1)) e = cntI (l.take k) e + (decide (x = e)).toNat := by
  rw [List.take_add_one, hx]
  unfold cntI
  rw [Option.toList_some, List.countP_append, List.countP_singleton]
  cases decide (x = e) <;> rfl
theorem cntI_le (l : List Int) (e : Int) : cntI l e ≤ l.length := List.countP_le_length

set_option maxRecDepth 100000 in
set_option maxHeartbeats 2000000 in
theorem count_ints (v : Value) (xs : List Int) (e : Int) (w : World) (h : IntsAt w v xs) (hl : xs.length ≤ 1000) :
    Calls Try.prog 39 #[v, .int .i64 e] w (RetB (.int .i64 (cntI xs e : Nat)) w) := by
  obtain ⟨A, c, rfl⟩ := h.form
  have HI := Lib.hid h
  obtain ⟨n, hn⟩ : ∃ n, xs.length = n := ⟨_, rfl⟩
  rw [hn] at HI hl ⊢
  have HN := Lib.hid hn
  clear h hn
  go_enter Try.func39, Try.ntmps39
  go_wp2_with fail
  go_loopg [5, 7, 10] n (fun gg s5 _ s10 wr => ∃ (k q : Nat), k ≤ n ∧ gg = n - k ∧ s10 = .int .i64 k ∧ s5 = .int .i64 q ∧ Hid (cntI (xs.take k) e = q) ∧ wr = w)
  case atStart => exact ⟨0, 0, Nat.zero_le _, by omega, rfl, rfl, rfl, rfl⟩
  case round =>
    obtain ⟨k, q, hk, hg, rfl, rfl, HQ, rfl⟩ := hrel
    have HG := Lib.hid hg
    have hqk : q ≤ 1000 := by
      have h1 := cntI_le (xs.take k) e
      rw [show cntI (xs.take k) e = q from HQ, List.length_take] at h1
      omega
    clear hg
    by_cases hlt : k < n
    · have hk0 : (0 : Int) ≤ (k : Int) := by omega
      have hltz : (k : Int) < (n : Int) := by omega
      obtain ⟨x, hx⟩ := exP_at (xs := xs) (k := k) (by rw [HN.out]; exact hlt)
      obtain ⟨A', c', e', _, h3⟩ := HI.out
      obtain ⟨b, off, e4, hbl, hc⟩ := h3 (by rw [HN.out]; omega)
      injection e' with e1 e2 e3
      rw [e4] at e1
      subst e1
      have c0 := hc k x hx
      have HNX := Lib.hid (cnt_snoc hx e)
      clear h3 hc e2 e3 e4 hx
      by_cases he : x = e
      · have he1 : (x == e) = true := by simpa using he
        rw [decide_eq_true he] at HNX
        clear he
        go_wp2_with fail
        go_roundg (n - (k + 1))
        case measure => have := HG.out; omega
        case rel => exact ⟨k + 1, q + 1, by omega, rfl, by go_num, by go_num, Lib.hid (by have := HNX.out; rw [show cntI (xs.take k) e = q from HQ] at this; exact this), rfl⟩
      · have he1 : (x == e) = false := by simpa using he
        rw [decide_eq_false he] at HNX
        clear he
        go_wp2_with fail
        go_roundg (n - (k + 1))
        case measure => have := HG.out; omega
        case rel => exact ⟨k + 1, q, by omega, rfl, by go_num, rfl, Lib.hid (by have := HNX.out; rw [show cntI (xs.take k) e = q from HQ] at this; exact this), rfl⟩
    · have hltz : ¬ (k : Int) < (n : Int) := by omega
      have HE : Hid (cntI xs e = q) := Lib.hid (by
        have h : cntI (xs.take k) e = q := HQ
        rwa [List.take_of_length_le (by rw [HN.out]; omega)] at h)
      go_wp2_with fail
      go_ret
      exact ⟨ret_int (by rw [HE.out]), Below.refl _ _⟩

set_option maxRecDepth 100000 in
set_option maxHeartbeats 2000000 in
theorem loose_any (r : Rt) (w : World) (h : IntsAt w (tV1 r) r.2.2.ts) (hl : r.2.2.ts.length ≤ 1000) :
    Calls Try.prog 20 #[tbA r] w (RetB (.int .i64 (cntI r.2.2.ts 0 : Nat)) w) := by
  obtain ⟨w1, P, hw1, hP, hPl, hb1, hbox⟩ := box_any w #[.int .i64 r.2.2.c, tV1 r, tV2 r] 38
  have HB1 := Lib.hid hb1
  obtain ⟨r0, r1, r2⟩ := three_heads hbox
  have HC := Lib.hid (count_ints (tV1 r) r.2.2.ts 0 w1 (h.keep hb1) hl)
  clear h hb1 hbox
  unfold tbA
  go_enter Try.func20, Try.ntmps20
  go_wp2_with fail
  refine HC.out.mono ?_
  rintro e w2 ⟨rfl, hb2⟩
  have HB2 := Lib.hid (HB1.out.trans (hb2.mono HB1.out.size))
  clear hb2
  go_wp2_with fail
  go_ret
  exact ⟨rfl, HB2.out⟩

theorem atPred_any (c : Int) (B : Nat) (r : Rt) (W : World) (hB : B < W.heap.size) (hc : W.cell? ⟨B, 0, none⟩ = some (.int .i64 c)) :
    Calls Try.prog 37 #[tbA r, .pointer (some ⟨B, 0, none⟩)] W (RetB (.bool (decide (r.2.2.c = c))) W) := by
  obtain ⟨w1, P, hw1, hP, hPl, hb1, hbox⟩ := box_any W #[.int .i64 r.2.2.c, tV1 r, tV2 r] 38
  have HB1 := Lib.hid hb1
  obtain ⟨r0, r1, r2⟩ := three_heads hbox
  have c0 := (hb1.cell (p := ⟨B, 0, none⟩) hB).trans hc
  have hd : (r.2.2.c == c) = decide (r.2.2.c = c) := by by_cases h : r.2.2.c = c <;> simp [h]
  have HD := Lib.hid hd
  clear hb1 hbox hd hc
  unfold tbA
  go_enter Try.func37, Try.ntmps37
  go_wp2_with fail
  go_ret
  exact ⟨by rw [← HD.out]; rfl, HB1.out⟩
def FirstTb (c : Int) (l : List Tb) (r : Int) : Prop :=
  (r = -1 ∧ ∀ x ∈ l, x.c ≠ c) ∨ ∃ (k : Nat) (x : Tb), r = k ∧ l[k]? = some x ∧ x.c = c ∧ ∀ (j : Nat) (y : Tb), j < k → l[j]? = some y → y.c ≠ c
theorem at_none {l : List Tb} {c t : Int} (h : ∀ x ∈ l, x.c ≠ c) : atT l c t = 0 := by
  induction l with
  | nil => rfl
  | cons x r ih =>
    rw [atT, if_neg (h x (by simp)), ih fun y hy => h y (by simp [hy])]
theorem at_first {c t : Int} : ∀ {l : List Tb} {k : Nat} {x : Tb}, l[k]? = some x → x.c = c → (∀ (j : Nat) (y : Tb), j < k → l[j]? = some y → y.c ≠ c) → atT l c t = ownerT x t
  | [], k, x, h, _, _ => by simp at h
  | y :: r, 0, x, h, hc, _ => by
    simp at h
    subst h
    rw [atT, if_pos hc]
  | y :: r, k + 1, x, h, hc, hn => by
    rw [atT, if_neg (hn 0 y (by omega) rfl)]
    exact at_first (by simpa using h) hc fun j z hj hz => hn (j + 1) z (by omega) (by simpa using hz)

set_option maxRecDepth 100000 in
set_option maxHeartbeats 2000000 in
theorem index_tb (c : Int) (B : Nat) (v : Value) (l : List Tb) (w : World) (h : TabsAt w v l) (hl : l.length ≤ 1000) (hB : B < w.heap.size) (hc : w.cell? ⟨B, 0, none⟩ = some (.int .i64 c)) :
    Calls Try.prog 36 #[v, .func (.func 37) #[] #[.pointer (some ⟨B, 0, none⟩)]] w (fun e w' => ∃ r, e = .returned (.int .i64 r) ∧ FirstTb c l r ∧ Below w.heap.size w w') := by
  have eg : ∀ args w, (callFunc 37 args).run Try.prog w = .ok (.enter 37 args) w := enters_of Try.func37 (by kernel_rfl) rfl
  obtain ⟨A, cA, rfl, hlc, hcm⟩ := h.form
  have HL := Lib.hid h
  obtain ⟨n, hn⟩ : ∃ n, l.length = n := ⟨_, rfl⟩
  rw [hn] at HL hl hlc ⊢
  have HN := Lib.hid hn
  have HBC := Lib.hid hc
  have HBL := Lib.hid hB
  clear h hn hc hB
  go_enter Try.func36, Try.ntmps36
  go_wp2
  go_loopg [5, 8] n (fun gg _ s8 wr => ∃ k : Nat, k ≤ n ∧ gg = n - k ∧ s8 = .int .i64 k ∧ Below w.heap.size w wr ∧ ∀ (j : Nat) (y : Tb), j < k → l[j]? = some y → y.c ≠ c)
  case atStart => exact ⟨0, Nat.zero_le _, by omega, rfl, Below.refl _ w, fun j t hj => absurd hj (Nat.not_lt_zero _)⟩
  case round =>
    obtain ⟨k, hk, hg, rfl, hbw, hall⟩ := hrel
    have HB := Lib.hid hbw
    have HALL := Lib.hid hall
    have HG := Lib.hid hg
    clear hbw hall hg
    by_cases hlt : k < n
    · have hltz : (k : Int) < (n : Int) := by omega
      have hk0 : (0 : Int) ≤ (k : Int) := by omega
      obtain ⟨x, hx⟩ := exP_at (xs := l) (k := k) (by rw [HN.out]; exact hlt)
      obtain ⟨b, off, A1, c1, A2, c2, hA, hbl, g0, g1, g2, _, _⟩ := (HL.out.keep HB.out).at_ hx
      subst hA
      have HX := Lib.hid hx
      have HCA := Lib.hid (atPred_any c B ((A1, c1), (A2, c2), x) wr (Nat.lt_of_lt_of_le HBL.out HB.out.size) ((HB.out.cell (p := ⟨B, 0, none⟩) HBL.out).trans HBC.out))
      unfold tbA tV1 tV2 at HCA
      simp only at HCA
      clear hx
      by_cases he : x.c = c
      · rw [decide_eq_true he] at HCA
        have HE := Lib.hid he
        clear he
        go_wp2_with (go_at_fn 37; refine HCA.out.mono ?_; rintro e w' ⟨rfl, hb'⟩)
        go_ret
        exact ⟨k, rfl, .inr ⟨k, _, rfl, HX.out, HE.out, HALL.out⟩, HB.out.trans (hb'.mono HB.out.size)⟩
      · rw [decide_eq_false he] at HCA
        have HE := Lib.hid he
        clear he
        go_wp2_with (go_at_fn 37; refine HCA.out.mono ?_; rintro e w' ⟨rfl, hb'⟩)
        go_roundg (n - (k + 1))
        case measure => have := HG.out; omega
        case rel =>
          refine ⟨k + 1, by omega, rfl, by go_num, HB.out.trans (hb'.mono HB.out.size), fun j t hj ht => ?_⟩
          by_cases e : j = k
          · subst e
            have := HX.out
            rw [this] at ht
            rw [← Option.some.inj ht]
            exact HE.out
          · exact HALL.out j t (by omega) ht
    · have hltz : ¬ (k : Int) < (n : Int) := by omega
      go_wp2
      go_ret
      refine ⟨-1, rfl, .inl ⟨rfl, fun s hs => ?_⟩, HB.out⟩
      obtain ⟨j, hj, e⟩ := List.getElem_of_mem hs
      exact HALL.out j s (by have := HN.out; omega) (by rw [List.getElem?_eq_getElem hj, e])

/-- What At tells. -/
def RetAt (u : Int) (w : World) (e : Ending) (w' : World) : Prop := ∃ b : Bool, e = .returned (.tuple #[.int .i64 u, .bool b]) ∧ Hid (b = decide (u ≠ 0)) ∧ Below w.heap.size w w'

set_option maxRecDepth 100000 in
set_option maxHeartbeats 2000000 in
theorem tabAt_any (v : Value) (l : List Tb) (c t : Int) (w : World) (h : TabsAt w v l) (hl : l.length ≤ 1000) (ht : Int64 t) :
    Calls Try.prog 17 #[v, .int .i64 c, .int .i64 t] w (RetAt (atT l c t) w) := by
  obtain ⟨A, cA, rfl, hlc, hcm⟩ := h.form
  obtain ⟨w1, B, hw1, hB, hBl, hb1, hbox⟩ := box_any w #[.int .i64 c] 3
  have r0 : w1.cell? ⟨B, 0, none⟩ = some (.int .i64 c) := by rw [cell_of_row w1 B 0 _ _ (0, 0) hbox]; rfl
  have HB1 := Lib.hid hb1
  have HL := Lib.hid (h.keep hb1)
  have HI := Lib.hid (index_tb c B _ l w1 (h.keep hb1) hl hBl r0)
  obtain ⟨n, hn⟩ : ∃ n, l.length = n := ⟨_, rfl⟩
  rw [hn] at HL HI hl hlc ⊢
  have HN := Lib.hid hn
  have HT := Lib.hid ht
  clear h hb1 hbox hn ht
  go_enter Try.func17, Try.ntmps17
  go_wp2_with fail
  refine HI.out.mono ?_
  rintro e w2 ⟨r, rfl, hf, hb2⟩
  have HB2 := Lib.hid (HB1.out.trans (hb2.mono HB1.out.size))
  have HL2 := Lib.hid (HL.out.keep hb2)
  clear r0 hb2 hw1 hB
  rcases hf with ⟨rfl, hf⟩ | ⟨k, x, rfl, hx, hxc, hf⟩
  · have HE := Lib.hid (at_none (t := t) hf)
    clear hf
    go_wp2_with fail
    go_ret2
    exact ⟨false, by rw [HE.out]; rfl, Lib.hid (by rw [HE.out]; rfl), HB2.out⟩
  · have HE := Lib.hid (at_first (t := t) hx hxc hf)
    obtain ⟨b, off, A1, c1, A2, c2, hA, hbl, g0, g1, g2, hit, _⟩ := HL2.out.at_ hx
    subst hA
    have hk := (List.getElem?_eq_some_iff.1 hx).1
    have hkn : k < n := by rw [← HN.out]; exact hk
    have hk0 : ¬ (k : Int) < 0 := by omega
    have hk1 : (0 : Int) ≤ (k : Int) := by omega
    have hkz : (k : Int) < (n : Int) := by omega
    have HOW := Lib.hid (owner_any ((A1, c1), (A2, c2), x) t w2 hit HT.out)
    unfold tbA tV1 tV2 at HOW
    simp only at HOW
    obtain ⟨u, hu⟩ : ∃ u, ownerT x t = u := ⟨_, rfl⟩
    rw [hu] at HOW HE
    clear hf hx hxc hit hu hk
    go_wp2_with fail
    refine HOW.out.mono ?_
    rintro e w3 ⟨rfl, hb3⟩
    have HB3 := Lib.hid (HB2.out.trans (hb3.mono HB2.out.size))
    clear hb3 g0 g1 g2
    by_cases hz : u = 0
    · have hz1 : (u != 0) = false := by simpa using hz
      have HZ := Lib.hid hz
      clear hz
      go_wp2_with fail
      go_ret2
      exact ⟨false, by rw [HE.out]; rfl, Lib.hid (by rw [HE.out, HZ.out]; rfl), HB3.out⟩
    · have hz1 : (u != 0) = true := by simpa using hz
      have HZ := Lib.hid hz
      clear hz
      go_wp2_with fail
      go_ret2
      exact ⟨true, by rw [HE.out]; rfl, Lib.hid (by rw [HE.out, decide_eq_true HZ.out]), HB3.out⟩
end Go.Proofs.Ytpjmdnhoiobedaa
