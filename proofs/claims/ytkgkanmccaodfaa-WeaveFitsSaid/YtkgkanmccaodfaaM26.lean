/-
  Free of the document.
  Conditions: the slice reads as places; the numbers are small.
-/
import Derived.Test.YtkgkanmccaodfaaM25
import Derived.Shelf.RegionOpenPlain
import Derived.Test.YtkgkanmccaodfaaM04
import Derived.Test.YtkgkanmccaodfaaM07
import Derived.Test.YtkgkanmccaodfaaM01
import Derived.Test.YtkgkanmccaodfaaM19

/-
  Plans held against each other.
  Conditions: the slices read as places.
-/
set_option linter.unusedVariables false
set_option linter.unusedSimpArgs false
namespace Go.Proofs.Ytkgkanmccaodfaa
open Go.RowKit

/-- Are two plans alike? -/
def sameB (f : Int) (m : Nat) (l : List Pl) (f' : Int) (m' : Nat) (l' : List Pl) : Bool := decide (f = f' ∧ m = m' ∧ l = l')
theorem sameB_no {f : Int} {m : Nat} {l : List Pl} {f' : Int} {m' : Nat} {l' : List Pl} (h : f ≠ f' ∨ m ≠ m' ∨ l ≠ l') : sameB f m l f' m' l' = false := decide_eq_false fun e => by
  rcases h with h | h | h
  · exact h e.1
  · exact h e.2.1
  · exact h e.2.2
theorem sameB_of {f : Int} {m : Nat} {l : List Pl} {f' : Int} {m' : Nat} {l' : List Pl} (h1 : f = f') (h2 : m = m') : sameB f m l f' m' l' = decide (l = l') := by
  by_cases h : l = l'
  · rw [decide_eq_true h]; exact decide_eq_true ⟨h1, h2, h⟩
  · rw [decide_eq_false h, sameB_no (.inr (.inr h))]
end Go.Proofs.Ytkgkanmccaodfaa

/-
  Has a plan not too much?
  Conditions: the slice reads as places.
-/
set_option linter.unusedVariables false
namespace Go.Proofs.Ytkgkanmccaodfaa
open Go.RowKit

/-- What Light tells. -/
def Lit (l : List Pl) : Prop := (∀ (k : Nat) (x : Pl), k < 300 → l[k]? = some x → x.ps.length ≤ 20) ∧ l.length ≤ 60
theorem Lit.light {l : List Pl} (h : Lit l) (ho : ∀ x ∈ l, PlOk x) : LightL l :=
  ⟨by have := h.2; omega, fun x hx => ⟨ho x hx, by
    obtain ⟨k, hk⟩ := List.mem_iff_getElem?.1 hx
    have h1 := (List.getElem?_eq_some_iff.1 hk).1
    have h2 := h.2
    have := h.1 k x (by omega) hk
    omega⟩⟩

set_option maxRecDepth 100000 in
set_option maxHeartbeats 2000000 in
theorem light_any (f : Int) (m : Nat) (v : Value) (l : List Pl) (w : World) (h : PlsAt w v l) :
    Calls Try.prog 6 #[planA f m v] w (RetIff (Lit l) w) := by
  obtain ⟨A, cA, rfl, hlc, hcm⟩ := h.form
  have HL := Lib.hid h
  obtain ⟨w1, P, hw1, hP, hPl, hb1, hbox⟩ := box_any w #[.int .i64 f, .int .u32 m, .slice A l.length cA] 25
  obtain ⟨n, hn⟩ : ∃ n, l.length = n := ⟨_, rfl⟩
  rw [hn] at HL hlc hw1 hbox ⊢
  have HN := Lib.hid hn
  have HB1 := Lib.hid hb1
  have HBOX := Lib.hid hbox
  obtain ⟨r0, r1, r2⟩ := three_heads hbox
  clear h hn hb1 hbox
  unfold planA
  go_enter Try.func6, Try.ntmps6
  go_wp2_with fail
  clear hw1 hP r0 r1 r2
  go_loopg [3] n (fun gg s3 wr => ∃ k : Nat, k ≤ n ∧ gg = n - k ∧ s3 = .int .i64 k ∧ Hid (∀ (i : Nat) (x : Pl), i < k → l[i]? = some x → x.ps.length ≤ 20) ∧ k ≤ 300 ∧ Below w1.heap.size w1 wr)
  case atStart => exact ⟨0, Nat.zero_le _, by omega, rfl, fun i x hi => absurd hi (by omega), by omega, Below.refl _ w1⟩
  case round =>
    obtain ⟨k, hk, hg, rfl, HA, hk3, hbw⟩ := hrel
    have HBW := Lib.hid hbw
    have HB := Lib.hid (HB1.out.trans (hbw.mono HB1.out.size))
    have HG := Lib.hid hg
    have hPl2 : P < wr.heap.size := Nat.lt_of_lt_of_le hPl hbw.size
    have HBX := Lib.hid ((hbw.block P hPl).trans HBOX.out)
    obtain ⟨r0, r1, r2⟩ := three_heads HBX.out
    have HLR := Lib.hid (HL.out.keep HB.out)
    clear hbw hg
    by_cases hlt : k < n
    · by_cases hl3 : k < 300
      · have hl3z : (k : Int) < 300 := by omega
        have hk0 : (0 : Int) ≤ (k : Int) := by omega
        have hltz : (k : Int) < (n : Int) := by omega
        obtain ⟨x, hx⟩ := exP_at (xs := l) (k := k) (by rw [HN.out]; exact hlt)
        obtain ⟨b, off, B, d, hA, hbl, _, ⟨c0, c1, c2, c3⟩, hps⟩ := HLR.out.at_ hx
        subst hA
        simp only at c0 c1 c2 c3
        have HX := Lib.hid hx
        have HPS := Lib.hid hps
        clear hx hps
        by_cases hp : x.ps.length ≤ 20
        · have hpz : decide ((20 : Int) < (x.ps.length : Int)) = false := decide_eq_false (by omega)
          have HE : Hid (∀ (i : Nat) (z : Pl), i < k + 1 → l[i]? = some z → z.ps.length ≤ 20) := Lib.hid (fun i z hi hz => by
            rcases Nat.lt_succ_iff_lt_or_eq.1 hi with h | rfl
            · exact HA i z h hz
            · rw [HX.out] at hz
              cases hz
              exact hp)
          go_wp2_with fail
          go_roundg (n - (k + 1))
          case measure => have := HG.out; omega
          case rel => exact ⟨k + 1, by omega, rfl, by go_num, HE.out, by omega, HBW.out⟩
        · have hpz : (20 : Int) < (x.ps.length : Int) := by omega
          have HNO := Lib.hid (show ¬ Lit l from fun h => hp (h.1 k x hl3 HX.out))
          go_wp2_with fail
          go_ret
          exact RetIff.no HNO.out HB.out
      · have hltz : (k : Int) < (n : Int) := by omega
        have hl3z : ¬ (k : Int) < 300 := by omega
        have hnz : decide ((n : Int) ≤ 60) = false := decide_eq_false (by omega)
        have HNO := Lib.hid (show ¬ Lit l from fun h => by have := h.2; have := HN.out; omega)
        go_wp2_with fail
        go_ret
        exact RetIff.no HNO.out HB.out
    · have hltz : ¬ (k : Int) < (n : Int) := by omega
      by_cases hn6 : n ≤ 60
      · have hnz : (n : Int) ≤ 60 := by omega
        have HYE := Lib.hid (show Lit l from ⟨fun i x _ hx => HA i x (by have := (List.getElem?_eq_some_iff.1 hx).1; have := HN.out; omega) hx, by rw [HN.out]; exact hn6⟩)
        go_wp2_with fail
        go_ret
        exact RetIff.yes HYE.out HB.out
      · have hnz : decide ((n : Int) ≤ 60) = false := decide_eq_false (by omega)
        have HNO := Lib.hid (show ¬ Lit l from fun h => by have := h.2; have := HN.out; omega)
        go_wp2_with fail
        go_ret
        exact RetIff.no HNO.out HB.out
end Go.Proofs.Ytkgkanmccaodfaa

/-
  The page's example comes out; which plans are small.
  Conditions: none.
-/
set_option linter.unusedVariables false
set_option linter.unusedSimpArgs false
namespace Go.Proofs.Ytkgkanmccaodfaa
open Go.RowKit

theorem exV_right : Right 4 15 exV where
  f2 := by decide
  f64 := by decide
  m0 := by decide
  m16 := by decide
  place := by
    intro x hx
    simp only [exV, List.mem_cons, List.not_mem_nil, or_false] at hx
    rcases hx with rfl | rfl | rfl
    · refine ⟨by decide +kernel, by decide, by decide, fun h => (by cases h), fun _ => ⟨rfl, by decide, ⟨by decide +kernel, by decide, by decide, by decide +kernel, by decide, by decide, trivial⟩, ?_, by decide +kernel⟩⟩
      show ∀ t, t < 64 → nAny [⟨0, 3⟩, ⟨1, 12⟩] t ≤ 1 ∧ (0 < nAny [⟨0, 3⟩, ⟨1, 12⟩] t → (t : Int) < 4)
      decide +kernel
    · exact ⟨by decide +kernel, by decide, by decide, fun _ => by decide +kernel, fun h => absurd rfl h⟩
    · exact ⟨by decide +kernel, by decide, by decide, fun _ => by decide +kernel, fun h => absurd rfl h⟩
  asc := by
    intro i x y hx hy
    have h : i + 1 < exV.length := (List.getElem?_eq_some_iff.1 hy).1
    have h0 : i = 0 ∨ i = 1 := by simp [exV] at h; omega
    rcases h0 with rfl | rfl
    · simp [exV] at hx hy
      subst hx
      subst hy
      decide
    · simp [exV] at hx hy
      subst hx
      subst hy
      decide
  apart := by decide +kernel
  few := by decide +kernel
  load := by decide +kernel
theorem exV_light : LightL exV := by
  refine ⟨by decide, fun x hx => ?_⟩
  simp only [exV, List.mem_cons, List.not_mem_nil, or_false] at hx
  rcases hx with rfl | rfl | rfl
  · refine ⟨⟨⟨by decide, by decide⟩, ⟨by decide, by decide⟩, ⟨by decide, by decide⟩, fun y hy => ?_⟩, by decide⟩
    simp only [List.mem_cons, List.not_mem_nil, or_false] at hy
    rcases hy with rfl | rfl <;> exact ⟨⟨by decide, by decide⟩, by decide⟩
  · exact ⟨⟨⟨by decide, by decide⟩, ⟨by decide, by decide⟩, ⟨by decide, by decide⟩, fun y hy => by cases hy⟩, by decide⟩
  · exact ⟨⟨⟨by decide, by decide⟩, ⟨by decide, by decide⟩, ⟨by decide, by decide⟩, fun y hy => by cases hy⟩, by decide⟩
theorem exV_yes : Why21 4 15 exV (4, 3) 0 := WvGoes.why ⟨⟨exV_right, by decide +kernel, by decide +kernel⟩, exV_none, exV_few, by show 3 ≤ _; rw [exV_most]; decide⟩
theorem exV_no : Why21 4 15 exV (4, 2) 15 := .inr (.inl ⟨⟨exV_right, by decide +kernel, by decide +kernel⟩, .inl (by show firstR 4 15 exV 2 ≠ _; rw [exV_some]; exact fun e => by cases e), rfl⟩)
theorem exV_pieces : mkP (wovenS 4 15 exV 3).gv 16 = [⟨0, 4⟩, ⟨1, 3⟩] := exV_woven

theorem exV_pls {W : World} {Q R : Nat} (hQ : W.heap[Q]? = some (.cells #[.int .i64 0, .int .u64 3, .int .i64 1, .int .u64 12] 50 (0, 0)))
    (hR : W.heap[R]? = some (.cells #[.int .i64 1, .int .i64 4, .int .i64 0, .slice (some ⟨Q, 0, none⟩) 2 2, .int .i64 2, .int .i64 2, .int .i64 2, .slice none 0 0, .int .i64 3, .int .i64 2, .int .i64 3, .slice none 0 0] 38 (0, 0))) (F : Nat → Prop) (hFQ : F Q) (hFR : F R) :
    PlsIn F W (.slice (some ⟨R, 0, none⟩) 3 3) exV := by
  have lQ := heap_lt hQ
  have lR := heap_lt hR
  have hps : PcsIn F W (.slice (some ⟨Q, 0, none⟩) 2 2) [⟨0, 3⟩, ⟨1, 12⟩] := by
    refine ⟨_, 2, rfl, by decide, by decide, fun _ => ⟨Q, 0, rfl, lQ, hFQ, fun j y hy => ?_⟩⟩
    have h := (List.getElem?_eq_some_iff.1 hy).1
    have hj : j = 0 ∨ j = 1 := by simp at h; omega
    rcases hj with rfl | rfl
    · cases hy
      exact ⟨by simp [World.cell?, hQ], by simp [World.cell?, hQ]⟩
    · cases hy
      exact ⟨by simp [World.cell?, hQ], by simp [World.cell?, hQ]⟩
  refine ⟨[(.slice (some ⟨Q, 0, none⟩) 2 2, ⟨1, 4, 0, [⟨0, 3⟩, ⟨1, 12⟩]⟩), (.slice none 0 0, ⟨2, 2, 2, []⟩), (.slice none 0 0, ⟨3, 2, 3, []⟩)], rfl, _, 3, rfl, Nat.le_refl 3, by decide, fun _ => ⟨R, 0, rfl, lR, hFR, fun j p hp => ?_⟩, fun p hp => ?_⟩
  · have h := (List.getElem?_eq_some_iff.1 hp).1
    have hj : j = 0 ∨ j = 1 ∨ j = 2 := by simp at h; omega
    rcases hj with rfl | rfl | rfl
    · cases hp
      exact ⟨by simp [World.cell?, hR], by simp [World.cell?, hR], by simp [World.cell?, hR], by simp [World.cell?, hR]⟩
    · cases hp
      exact ⟨by simp [World.cell?, hR], by simp [World.cell?, hR], by simp [World.cell?, hR], by simp [World.cell?, hR]⟩
    · cases hp
      exact ⟨by simp [World.cell?, hR], by simp [World.cell?, hR], by simp [World.cell?, hR], by simp [World.cell?, hR]⟩
  · simp only [List.mem_cons, List.not_mem_nil, or_false] at hp
    rcases hp with rfl | rfl | rfl
    · exact hps
    · exact PcsIn.nil _ _
    · exact PcsIn.nil _ _

set_option maxRecDepth 100000 in
set_option maxHeartbeats 2000000 in
theorem example21_any (w : World) : Calls Try.prog 21 #[] w (RetPn Any 4 15 exV w) := by
  obtain ⟨w1, P, hw1, hP, hPl, hb1, hpb⟩ := box_any w #[.int .i64 0, .int .u32 0, .slice none 0 0] 25
  obtain ⟨w2, Q, hw2, hQ, hQl, hb2, hqb⟩ := box_any w1 #[.int .i64 0, .int .u64 3, .int .i64 1, .int .u64 12] 50
  obtain ⟨w3, R, hw3, hR, hRl, hb3, hrb⟩ := box_any w2 #[.int .i64 1, .int .i64 4, .int .i64 0, .slice (some ⟨Q, 0, none⟩) 2 2, .int .i64 2, .int .i64 2, .int .i64 2, .slice none 0 0, .int .i64 3, .int .i64 2, .int .i64 3, .slice none 0 0] 38
  have HB2 := Lib.hid (hb1.trans (hb2.mono hb1.size))
  have HB3 := Lib.hid (HB2.out.trans (hb3.mono HB2.out.size))
  have HPB := Lib.hid (keep_block (keep_block hpb hb2) hb3)
  have HLT := Lib.hid (show w.heap.size ≤ P ∧ P < Q ∧ Q < R by have := hb1.size; omega)
  have HPL := Lib.hid (exV_pls (keep_block hqb hb3) hrb (fun b => w.heap.size ≤ b ∧ b ≠ P) ⟨by omega, by omega⟩ ⟨by omega, by omega⟩)
  clear hb1 hb2 hb3 hpb hqb hrb
  go_enter Try.func21, Try.ntmps21
  go_wp2_with (refine wpList_store_row rfl _ _ _ rfl P #[.int .i64 4, .int .u32 15, .slice (some ⟨R, 0, none⟩) 3 3] rfl rfl 25 _ HPB.out (Try.sizePn _ _ _) rfl (one3 _ _ _ _ _) ?_)
  refine bodyPost_ret (v := planA 4 15 (.slice (some ⟨R, 0, none⟩) 3 3)) (results_cell_row rfl _ _ P _ _ _ _ rfl (setRow_heap _ _ _ _ _ _ HPB.out) Try.underlying25 rfl (Try.sizePn _ _ _)) rfl ?_
  exact ⟨_, rfl, (PlsIn.setRow HPL.out (.inl fun h => h.2 rfl)).any, below_row HB3.out HLT.out.1 _⟩

set_option maxRecDepth 100000 in
set_option maxHeartbeats 8000000 in
theorem awake21_any (w : World) : Calls Try.prog 7 #[] w (RetB (.bool true) w) := by
  have HEX := Lib.hid (example21_any w)
  have HPA := Lib.hid (fun v W (h : PlsAt W v exV) => wvPlace_any 4 15 v exV 4 3 W h exV_light (by decide) ⟨by decide, by decide⟩ ⟨by decide, by decide⟩)
  have HPB := Lib.hid (fun v W (h : PlsAt W v exV) => wvPlace_any 4 15 v exV 4 2 W h exV_light (by decide) ⟨by decide, by decide⟩ ⟨by decide, by decide⟩)
  have HMO := Lib.hid (fun v W (h : PlsAt W v exV) => wvMost_any 4 15 v exV W h exV_light (by decide))
  unfold planA at HPA HPB HMO
  go_enter Try.func7, Try.ntmps7
  go_wp2_with fail
  refine HEX.out.mono ?_
  rintro e w1 ⟨v1, rfl, hp1, hb1⟩
  obtain ⟨A1, d1, rfl, _, _⟩ := hp1.form
  rw [show exV.length = 3 from rfl] at hp1 ⊢
  obtain ⟨w2, P, hw2, hP, hPl, hb2, hpb⟩ := box_any w1 #[.int .i64 0, .int .u32 0, .slice none 0 0] 25
  have HPB0 := Lib.hid hpb
  obtain ⟨w3, hw3⟩ : ∃ w3, w2.setRow P #[.int .i64 4, .int .u32 15, .slice A1 3 d1] = w3 := ⟨_, rfl⟩
  have hb3 : Below w1.heap.size w1 w3 := by rw [← hw3]; exact below_row hb2 (by omega) _
  have HB3 := Lib.hid (hb1.trans (hb3.mono hb1.size))
  have HP3 : Hid (w3.heap[P]? = some (.cells #[.int .i64 4, .int .u32 15, .slice A1 3 d1] 25 (0, 0))) := Lib.hid (by rw [← hw3]; exact setRow_heap _ _ _ _ _ _ hpb)
  have HL3 : Hid (∀ W, Below w3.heap.size w3 W → PlsAt W (.slice A1 3 d1) exV) := Lib.hid (fun W hk => (PlsIn.keep hp1 hb3).keep hk)
  have HSA : Hid (∀ W, Below w3.heap.size w3 W → W.cell? ⟨P, 0, none⟩ = some (.int .i64 4) ∧ W.cell? ⟨P, 1, none⟩ = some (.int .u32 15) ∧ W.cell? ⟨P, 2, none⟩ = some (.slice A1 3 d1)) := Lib.hid (fun W hk => three_heads (keep_block HP3.out hk))
  obtain ⟨p0, p1, p2⟩ := HSA.out w3 (Below.refl _ _)
  clear hb1 hb2 hb3 hp1 hpb
  unfold planA
  go_wp2_with (refine wpList_store_row rfl _ _ _ rfl P #[.int .i64 4, .int .u32 15, .slice A1 3 d1] rfl rfl 25 _ HPB0.out (Try.sizePn _ _ _) rfl (one3 _ _ _ _ _) ?_)
  refine (HPA.out _ _ (HL3.out _ (Below.refl _ _))).mono ?_
  rintro e w4 ⟨E, hwhy, hb4, hcase⟩
  have hE : E = 0 := hwhy.unique exV_yes
  obtain ⟨_, A4, n4, c4, rfl, hx4⟩ := hcase.resolve_left fun h => h.1 hE
  rw [exV_pieces] at hx4
  have hn4 : n4 = 2 := by obtain ⟨A', c', h1, _⟩ := hx4; simp only [Value.slice.injEq] at h1; exact h1.2.1
  subst hn4
  obtain ⟨w5, X, hw5, hX, hXl, hb5, hxb⟩ := box_any w4 #[.int .i64 0, .int .i64 0, .int .i64 0, .slice none 0 0] 38
  have HXB := Lib.hid hxb
  obtain ⟨w6, hw6⟩ : ∃ w6, w5.setRow X #[.int .i64 4, .int .i64 3, .int .i64 0, .slice A4 2 c4] = w6 := ⟨_, rfl⟩
  have hb6 : Below w4.heap.size w4 w6 := by rw [← hw6]; exact below_row hb5 (by omega) _
  have HK6 := Lib.hid (hb4.trans (hb6.mono hb4.size))
  have HX6 : Hid (w6.heap[X]? = some (.cells #[.int .i64 4, .int .i64 3, .int .i64 0, .slice A4 2 c4] 38 (0, 0))) := Lib.hid (by rw [← hw6]; exact setRow_heap _ _ _ _ _ _ hxb)
  have HPX6 := Lib.hid (hx4.keep hb6)
  clear hb4 hb5 hb6 hx4 hxb hwhy hE hcase p0 p1 p2 hw2 hw3 hP
  obtain ⟨p0, p1, p2⟩ := HSA.out w6 HK6.out
  go_wp2_with (refine wpList_store_row rfl _ _ _ rfl X #[.int .i64 4, .int .i64 3, .int .i64 0, .slice A4 2 c4] rfl rfl 38 _ HXB.out (Try.sizePl _ _ _ _) rfl (one4 _ _ _ _ _ _) ?_)
  refine (HPB.out _ _ (HL3.out _ HK6.out)).mono ?_
  rintro e w7 ⟨E, hwhy, hb7, hcase⟩
  have hE : E = 15 := hwhy.unique exV_no
  obtain ⟨_, rfl⟩ := hcase.resolve_right fun h => by rw [hE] at h; exact absurd h.1 (by decide)
  subst hE
  unfold plA zeroPl
  obtain ⟨w8, Y, hw8, hY, hYl, hb8, hyb⟩ := box_any w7 #[.int .i64 0, .int .i64 0, .int .i64 0, .slice none 0 0] 38
  have HYB := Lib.hid hyb
  obtain ⟨w9, hw9⟩ : ∃ w9, w8.setRow Y #[.int .i64 0, .int .i64 0, .int .i64 0, .slice none 0 0] = w9 := ⟨_, rfl⟩
  have hb9 : Below w7.heap.size w7 w9 := by rw [← hw9]; exact below_row hb8 (by omega) _
  have hb79 := hb7.trans (hb9.mono hb7.size)
  have HK9 := Lib.hid (HK6.out.trans (hb79.mono HK6.out.size))
  have HX9 := Lib.hid (keep_block HX6.out hb79)
  have HPX9 := Lib.hid (HPX6.out.keep hb79)
  clear hb7 hb8 hb9 hb79 hyb hwhy hcase p0 p1 p2 hw5 hw6 hX
  obtain ⟨p0, p1, p2⟩ := HSA.out w9 HK9.out
  go_wp2_with (refine wpList_store_row rfl _ _ _ rfl Y #[.int .i64 0, .int .i64 0, .int .i64 0, .slice none 0 0] rfl rfl 38 _ HYB.out (Try.sizePl _ _ _ _) rfl (one4 _ _ _ _ _ _) ?_)
  refine (HMO.out _ _ (HL3.out _ HK9.out)).mono ?_
  rintro e w10 ⟨km, rfl, hkm, _, hb10⟩
  have hkm4 := hkm exV_right
  rw [exV_most] at hkm4
  subst hkm4
  have HK10 := Lib.hid (HK9.out.trans (hb10.mono HK9.out.size))
  have HX10 := Lib.hid (keep_block HX9.out hb10)
  obtain ⟨w11, S, hw11, hS, hSl, hb11, hsb⟩ := box_any w10 #[.int .i64 0, .int .u64 4, .int .i64 1, .int .u64 3] 50
  have HK11 := Lib.hid (HK10.out.trans (hb11.mono HK10.out.size))
  have HX11 := Lib.hid (keep_block HX10.out hb11)
  have hpc : PcsAt w11 (.slice (some ⟨S, 0, none⟩) 2 2) [⟨0, 4⟩, ⟨1, 3⟩] := by
    refine ⟨some ⟨S, 0, none⟩, 2, rfl, Nat.le_refl _, by decide, fun _ => ⟨S, 0, rfl, heap_lt hsb, trivial, fun j y hy => ?_⟩⟩
    rcases j with _ | _ | j
    · simp at hy
      subst hy
      refine ⟨?_, ?_⟩ <;> simp [World.cell?, hsb]
    · simp at hy
      subst hy
      refine ⟨?_, ?_⟩ <;> simp [World.cell?, hsb]
    · simp at hy
  have HSM := Lib.hid (refSamePlace_any (.slice A4 2 c4) (.slice (some ⟨S, 0, none⟩) 2 2) ⟨4, 3, 0, [⟨0, 4⟩, ⟨1, 3⟩]⟩ ⟨4, 3, 0, [⟨0, 4⟩, ⟨1, 3⟩]⟩ w11 ((HPX9.out.keep hb10).keep hb11) hpc)
  rw [show decide ((⟨4, 3, 0, [⟨0, 4⟩, ⟨1, 3⟩]⟩ : Pl) = ⟨4, 3, 0, [⟨0, 4⟩, ⟨1, 3⟩]⟩) = true from decide_eq_true rfl] at HSM
  unfold plA at HSM
  obtain ⟨x0, x1, x2, x3⟩ := four_heads HX10.out
  clear hb10 hb11 hpc hsb p0 p1 p2 hw8 hw9 hY hkm
  go_wp2_with fail
  refine HSM.out.mono ?_
  rintro e w12 ⟨rfl, hb12⟩
  have HBE := Lib.hid (HB3.out.trans ((HK11.out.trans (hb12.mono HK11.out.size)).mono HB3.out.size))
  clear hb12 x0 x1 x2 x3
  go_wp2_with fail
  go_ret
  exact ⟨rfl, HBE.out⟩
end Go.Proofs.Ytkgkanmccaodfaa

/-
  An argument that is a slice of wants, of whatever length; its first ones.
  Conditions: none.
-/
set_option linter.unusedVariables false
namespace Go.Proofs.Ytkgkanmccaodfaa
open Go.RowKit

/-- An argument: it may be of any length. -/
def ArgAt (W : World) (v : Value) (ps : List Sp) : Prop :=
  ∃ A c, v = .slice A ps.length c ∧ ps.length ≤ c ∧ c ≤ 9223372036854775807 ∧ (A = none → c = 0) ∧
    (0 < ps.length → ∃ b off, A = some ⟨b, off, none⟩ ∧ b < W.heap.size ∧ ∀ (j : Nat) (p : Sp), ps[j]? = some p → PairAt W b (off + j * 2) p)
theorem ArgAt.keep {W W' : World} {v : Value} {ps : List Sp} (h : ArgAt W v ps) (hb : Below W.heap.size W W') : ArgAt W' v ps := by
  obtain ⟨A, c, h1, h2, h3, h4, h5⟩ := h
  refine ⟨A, c, h1, h2, h3, h4, fun hn => ?_⟩
  obtain ⟨b, off, e, hlt, hc⟩ := h5 hn
  exact ⟨b, off, e, Nat.lt_of_lt_of_le hlt hb.size, fun j x hx => (hc j x hx).keep hb hlt⟩
/-- Its first ones. -/
theorem ArgAt.cut {W : World} {A : Option Addr} {n c : Nat} {ps : List Sp} (h : ArgAt W (.slice A n c) ps) (N : Nat) (hN : N ≤ 2000000) : SpansAt W (.slice A (min n N) c) (ps.take N) := by
  obtain ⟨A', c', h1, h2, h3, h4, h5⟩ := h
  injection h1 with e1 e2 e3
  subst e1 e2 e3
  have hl : (ps.take N).length = min ps.length N := by rw [List.length_take, Nat.min_comm]
  have hmin : min ps.length N ≤ ps.length := Nat.min_le_left _ _
  have hmin2 : min ps.length N ≤ N := Nat.min_le_right _ _
  refine ⟨A, c, by rw [hl], by omega, by omega, h3, fun hn => ?_⟩
  obtain ⟨b, off, e, hlt, hc⟩ := h5 (by omega)
  refine ⟨b, off, e, hlt, fun j p hj => hc j p ?_⟩
  rw [List.getElem?_take] at hj
  split at hj
  · exact hj
  · cases hj
end Go.Proofs.Ytkgkanmccaodfaa

/-
  The law of wants that are woven: WeavePlaces.
  Conditions: the slice reads as places; the numbers are of their kinds.
-/
set_option linter.unusedVariables false
set_option linter.unusedSimpArgs false
namespace Go.Proofs.Ytkgkanmccaodfaa
open Go.RowKit

/-- What Place answers, as a place and an error. -/
theorem RetWv.form {f : Int} {m : Nat} {l : List Pl} {u s : Int} {w w' : World} {e : Ending} (h : RetWv f m l u s w e w') :
    ∃ (E : Int) (x : Pl) (A : Option Addr) (n c : Nat), e = .returned (.tuple #[.agg #[.int .i64 x.u, .int .i64 x.s, .int .i64 0, .slice A n c], .int .i64 E]) ∧ Why21 f m l (u, s) E ∧ Below w.heap.size w w' ∧ PcsAt w' (.slice A n c) x.ps ∧
      ((E ≠ 0 ∧ x = zeroPl) ∨ (E = 0 ∧ x = wovenP f m l (u, s))) := by
  obtain ⟨E, h1, h2, ⟨h3, h4⟩ | ⟨h3, A, n, c, h4, h5⟩⟩ := h
  · exact ⟨E, zeroPl, none, 0, 0, h4, h1, h2, PcsIn.nil _ _, .inl ⟨h3, rfl⟩⟩
  · subst h3
    exact ⟨0, wovenP f m l (u, s), A, n, c, h4, h1, h2, h5, .inr ⟨rfl, rfl⟩⟩

set_option maxRecDepth 100000 in
set_option maxHeartbeats 8000000 in
theorem small_any (f : Int) (m : Nat) (v : Value) (l : List Pl) (w : World) (h : PlsAt w v l) (hlit : Lit l) (hL : LightL l) (hr : Right f m l) :
    Calls Try.prog 16 #[planA f m v] w (RetB (.bool (decide (coresN m ≤ 5 ∧ f ≤ 16))) w) := by
  have hm := hr.m16
  obtain ⟨w1, P, hw1, hP, hPl, hb1, hbox⟩ := box_any w #[.int .i64 f, .int .u32 m, v] 25
  have HB1 := Lib.hid hb1
  have HBOX := Lib.hid hbox
  have HPL : Hid (∀ W, Below w1.heap.size w1 W → PlsAt W v l) := Lib.hid (fun W hk => h.keep (HB1.out.trans (hk.mono HB1.out.size)))
  have HLY := Lib.hid (fun W (hk : Below w1.heap.size w1 W) => (calls_iff (light_any f m v l W (HPL.out W hk))).1 hlit)
  have HRY := Lib.hid (fun W (hk : Below w1.heap.size w1 W) => (calls_iff (right_any f m v l W (HPL.out W hk) hL (by omega))).1 hr)
  have HCO := Lib.hid (fun W => refCores_any f m v W (by omega))
  have HSA : Hid (∀ W, Below w1.heap.size w1 W → W.cell? ⟨P, 0, none⟩ = some (.int .i64 f) ∧ W.cell? ⟨P, 1, none⟩ = some (.int .u32 m) ∧ W.cell? ⟨P, 2, none⟩ = some v) := Lib.hid (fun W hk => three_heads (keep_block HBOX.out hk))
  have HK1 := Lib.hid (Below.refl w1.heap.size w1)
  have HTL : Hid ((ticksI m 16).length = coresN m) := Lib.hid (by rw [ticksI_length]; rfl)
  obtain ⟨n, hn⟩ : ∃ n, coresN m = n := ⟨_, rfl⟩
  rw [hn] at HTL ⊢
  obtain ⟨r0, r1, r2⟩ := HSA.out _ HK1.out
  unfold planA at HLY HRY HCO ⊢
  clear h hlit hL hr hm hb1 hbox hn
  go_enter Try.func16, Try.ntmps16
  go_wp2_with fail
  refine (HLY.out _ HK1.out).mono ?_
  rintro e w2 ⟨rfl, hb2⟩
  have HK2 := Lib.hid hb2
  clear hb2 r0 r1 r2 hw1 hP
  obtain ⟨r0, r1, r2⟩ := HSA.out _ HK2.out
  go_wp2_with fail
  refine (HRY.out _ HK2.out).mono ?_
  rintro e w3 ⟨rfl, hb3⟩
  have HK3 := Lib.hid (HK2.out.trans (hb3.mono HK2.out.size))
  clear hb3 r0 r1 r2
  obtain ⟨r0, r1, r2⟩ := HSA.out _ HK3.out
  go_wp2_with fail
  refine (HCO.out _).mono ?_
  rintro e w4 ⟨v4, rfl, hv4, hb4⟩
  have HK4 := Lib.hid (HK3.out.trans (hb4.mono HK3.out.size))
  obtain ⟨A4, c4, rfl, _, _⟩ := hv4
  rw [HTL.out]
  have HBE := Lib.hid (HB1.out.trans (HK4.out.mono HB1.out.size))
  clear hb4 r0 r1 r2
  obtain ⟨r0, r1, r2⟩ := HSA.out _ HK4.out
  by_cases h5 : n ≤ 5
  · have hd : decide ((n : Int) ≤ 5) = true := decide_eq_true (by omega)
    have HH5 := Lib.hid h5
    by_cases h16 : f ≤ 16
    · have HD : Hid (decide (n ≤ 5 ∧ f ≤ 16) = true) := Lib.hid (decide_eq_true ⟨h5, h16⟩)
      go_wp2_with fail
      go_ret
      exact ⟨by rw [HD.out]; rfl, HBE.out⟩
    · have HD : Hid (decide (n ≤ 5 ∧ f ≤ 16) = false) := Lib.hid (decide_eq_false fun h => h16 h.2)
      have hd2 : decide (f ≤ 16) = false := decide_eq_false h16
      go_wp2_with fail
      go_ret
      exact ⟨by rw [HD.out]; rfl, HBE.out⟩
  · have hd : decide ((n : Int) ≤ 5) = false := decide_eq_false (by omega)
    have HD : Hid (decide (n ≤ 5 ∧ f ≤ 16) = false) := Lib.hid (decide_eq_false fun h => h5 h.1)
    go_wp2_with fail
    go_ret
    exact ⟨by rw [HD.out]; rfl, HBE.out⟩

set_option maxRecDepth 100000 in
set_option maxHeartbeats 16000000 in
theorem places_law (f : Int) (m : Nat) (v : Value) (l : List Pl) (u s : Int) (w : World) (h : PlsAt w v l) (ho : ∀ x ∈ l, PlOk x) (hm : m < 4294967296) (hu : Int64 u) (hs : Int64 s) :
    Calls Try.prog 4 #[planA f m v, .agg #[.int .i64 u, .int .i64 s]] w (RetB (.bool true) w) := by
  have mixed : Try.prog.follows .mixedOrders = true := by kernel_rfl
  have HAW := Lib.hid (fun W => awake21_any W)
  obtain ⟨w1, P, hw1, hP, hPl, hb1, hbox⟩ := box_any w #[.int .i64 f, .int .u32 m, v] 25
  obtain ⟨w2, Q, hw2, hQ, hQl, hb2, hqox⟩ := box_any w1 #[.int .i64 u, .int .i64 s] 35
  have HB2 := Lib.hid (hb1.trans (hb2.mono hb1.size))
  have HPB := Lib.hid (keep_block hbox hb2)
  have HQB := Lib.hid hqox
  have HPL : Hid (∀ W, Below w2.heap.size w2 W → PlsAt W v l) := Lib.hid (fun W hk => h.keep (HB2.out.trans (hk.mono HB2.out.size)))
  have HLI := Lib.hid (fun W (hk : Below w2.heap.size w2 W) => calls_iff (light_any f m v l W (HPL.out W hk)))
  have HSA : Hid (∀ W, Below w2.heap.size w2 W → W.cell? ⟨P, 0, none⟩ = some (.int .i64 f) ∧ W.cell? ⟨P, 1, none⟩ = some (.int .u32 m) ∧ W.cell? ⟨P, 2, none⟩ = some v ∧ W.cell? ⟨Q, 0, none⟩ = some (.int .i64 u) ∧ W.cell? ⟨Q, 1, none⟩ = some (.int .i64 s)) := Lib.hid (fun W hk => by
    obtain ⟨a, b, c⟩ := three_heads (keep_block HPB.out hk)
    obtain ⟨d, e⟩ := two_heads (keep_block HQB.out hk)
    exact ⟨a, b, c, d, e⟩)
  have HK1 := Lib.hid (Below.refl w2.heap.size w2)
  obtain ⟨r0, r1, r2, q0, q1⟩ := HSA.out _ HK1.out
  unfold planA at HLI ⊢
  clear h hb1 hb2 hbox hqox
  by_cases hlit : Lit l
  · have hL := hlit.light ho
    have HLIT := Lib.hid hlit
    have HLY := Lib.hid (fun W hk => (HLI.out W hk).1 hlit)
    have HRI := Lib.hid (fun W hk => calls_iff (right_any f m v l W (HPL.out W hk) hL hm))
    have HPA := Lib.hid (fun W h => wvPlace_any f m v l u s W h hL hm hu hs)
    have HL := Lib.hid hL
    have HMM := Lib.hid hm
    have HUS := Lib.hid (show Int64 u ∧ Int64 s from ⟨hu, hs⟩)
    unfold planA at HRI HPA
    clear HLI hlit hL ho hm hu hs
    go_enter Try.func4, Try.ntmps4
    go_wp2_with fail
    refine (HLY.out _ HK1.out).mono ?_
    rintro e w3 ⟨rfl, hb3⟩
    have HKIN := Lib.hid hb3
    clear hb3 r0 r1 r2 q0 q1 hw1 hP hw2 hQ
    obtain ⟨r0, r1, r2, q0, q1⟩ := HSA.out _ HKIN.out
    go_wp2_with fail
    refine (HPA.out _ (HPL.out _ HKIN.out)).mono ?_
    rintro e w4 hret
    obtain ⟨E, x, A, n, c, rfl, hwhy, hb4, hx4, hcase⟩ := hret.form
    obtain ⟨w5, X, hw5, hX, hXl, hb5, hxb⟩ := box_any w4 #[.int .i64 0, .int .i64 0, .int .i64 0, .slice none 0 0] 38
    have HXB := Lib.hid hxb
    obtain ⟨xu, hxu⟩ : ∃ xu, x.u = xu := ⟨_, rfl⟩
    obtain ⟨xs, hxs⟩ : ∃ xs, x.s = xs := ⟨_, rfl⟩
    rw [hxu, hxs]
    have HXE : Hid (x = ⟨xu, xs, 0, x.ps⟩) := Lib.hid (Pl.ext' hxu hxs (by rcases hcase with ⟨_, rfl⟩ | ⟨_, rfl⟩ <;> rfl) rfl)
    obtain ⟨w6, hw6⟩ : ∃ w6, w5.setRow X #[.int .i64 xu, .int .i64 xs, .int .i64 0, .slice A n c] = w6 := ⟨_, rfl⟩
    have hb6 : Below w4.heap.size w4 w6 := by rw [← hw6]; exact below_row hb5 (by omega) _
    have HK6 := Lib.hid (HKIN.out.trans ((hb4.trans (hb6.mono hb4.size)).mono HKIN.out.size))
    have HX6 : Hid (w6.heap[X]? = some (.cells #[.int .i64 xu, .int .i64 xs, .int .i64 0, .slice A n c] 38 (0, 0))) := Lib.hid (by rw [← hw6]; exact setRow_heap _ _ _ _ _ _ hxb)
    have HPX6 : Hid (∀ W, Below w6.heap.size w6 W → PcsAt W (.slice A n c) x.ps) := Lib.hid (fun W hk => (hx4.keep hb6).keep hk)
    have HSX : Hid (∀ W, Below w6.heap.size w6 W → W.cell? ⟨P, 0, none⟩ = some (.int .i64 f) ∧ W.cell? ⟨P, 1, none⟩ = some (.int .u32 m) ∧ W.cell? ⟨P, 2, none⟩ = some v ∧ W.cell? ⟨Q, 0, none⟩ = some (.int .i64 u) ∧ W.cell? ⟨Q, 1, none⟩ = some (.int .i64 s) ∧ W.cell? ⟨X, 0, none⟩ = some (.int .i64 xu) ∧ W.cell? ⟨X, 1, none⟩ = some (.int .i64 xs) ∧ W.cell? ⟨X, 2, none⟩ = some (.int .i64 0) ∧ W.cell? ⟨X, 3, none⟩ = some (.slice A n c)) := Lib.hid (fun W hk => by
      obtain ⟨a0, a1, a2, a3, a4⟩ := HSA.out W (HK6.out.trans (hk.mono HK6.out.size))
      obtain ⟨b0, b1, b2, b3⟩ := four_heads (keep_block HX6.out hk)
      exact ⟨a0, a1, a2, a3, a4, b0, b1, b2, b3⟩)
    have HWH := Lib.hid hwhy
    have HCA := Lib.hid hcase
    have HX0 := Lib.hid (Below.refl w6.heap.size w6)
    clear hret hb4 hb5 hb6 hx4 hxb hwhy hcase hxu hxs r0 r1 r2 q0 q1
    obtain ⟨r0, r1, r2, q0, q1, x0, x1, x2, x3⟩ := HSX.out _ HX0.out
    go_wp2_with (refine wpList_store_row rfl _ _ _ rfl X #[.int .i64 xu, .int .i64 xs, .int .i64 0, .slice A n c] rfl rfl 38 _ HXB.out (Try.sizePl _ _ _ _) rfl (one4 _ _ _ _ _ _) ?_)
    clear hw5 hw6 hX
    by_cases hr : Right f m l
    · have HRT := Lib.hid hr
      refine ((HRI.out _ HK6.out).1 hr).mono ?_
      rintro e w7 ⟨rfl, hb7⟩
      have HX7 := Lib.hid hb7
      have HSMA := Lib.hid (fun W hk => small_any f m v l W (HPL.out W hk) HLIT.out HL.out hr)
      have HRW := Lib.hid (fun W h => refWhy21_any f m v l u s W h HL.out hr HUS.out.1 HUS.out.2)
      unfold planA at HSMA HRW
      clear hb7 hr r0 r1 r2 q0 q1 x0 x1 x2 x3
      obtain ⟨r0, r1, r2, q0, q1, x0, x1, x2, x3⟩ := HSX.out _ HX7.out
      by_cases hsm : coresN m ≤ 5 ∧ f ≤ 16
      · rw [decide_eq_true hsm] at HSMA
        clear hsm
        go_wp2_with fail
        refine (HSMA.out _ (HK6.out.trans (HX7.out.mono HK6.out.size))).mono ?_
        rintro e w8 ⟨rfl, hb8⟩
        have HX8 := Lib.hid (HX7.out.trans (hb8.mono HX7.out.size))
        clear hb8 r0 r1 r2 q0 q1 x0 x1 x2 x3
        obtain ⟨r0, r1, r2, q0, q1, x0, x1, x2, x3⟩ := HSX.out _ HX8.out
        go_wp2_with fail
        refine (HRW.out _ (HPL.out _ (HK6.out.trans (HX8.out.mono HK6.out.size)))).mono ?_
        rintro e w9 ⟨E2, rfl, hwhy2, hb9⟩
        have hE2 : E2 = E := hwhy2.unique HWH.out
        subst hE2
        have HX9 := Lib.hid (HX8.out.trans (hb9.mono HX8.out.size))
        clear hb9 hwhy2 r0 r1 r2 q0 q1 x0 x1 x2 x3
        obtain ⟨r0, r1, r2, q0, q1, x0, x1, x2, x3⟩ := HSX.out _ HX9.out
        by_cases hE : E2 = 0
        · subst hE
          have HXW : Hid (x = wovenP f m l (u, s)) := Lib.hid (HCA.out.resolve_left fun h => h.1 rfl).2
          have HGO := Lib.hid HWH.out.zero
          have HS1 : Hid (1 ≤ s ∧ s ≤ 64) := Lib.hid (by
            have h1 := ((WOk.of_chk HGO.out.goes.chk).2.all _ (List.mem_singleton.2 rfl)).2
            have h2 := HRT.out.f64
            exact ⟨h1.1, Int.le_trans h1.2 h2⟩)
          have HRP := Lib.hid (fun W h => refPlace21_any f m v l u s W h HL.out HRT.out HS1.out.1 HS1.out.2)
          unfold planA at HRP
          have hkd := HX9.out.drew
          go_wp2_with fail
          clear r0 r1 r2 q0 q1 x0 x1 x2 x3
          refine wp_region_held_drew (S := fun w' => w'.cell? ⟨P, 0, none⟩ = some (.int .i64 f) ∧ w'.cell? ⟨P, 1, none⟩ = some (.int .u32 m) ∧ w'.cell? ⟨P, 2, none⟩ = some (v) ∧ w'.cell? ⟨Q, 0, none⟩ = some (.int .i64 u) ∧ w'.cell? ⟨Q, 1, none⟩ = some (.int .i64 s) ∧ w'.cell? ⟨X, 0, none⟩ = some (.int .i64 xu) ∧ w'.cell? ⟨X, 1, none⟩ = some (.int .i64 xs) ∧ w'.cell? ⟨X, 2, none⟩ = some (.int .i64 0) ∧ w'.cell? ⟨X, 3, none⟩ = some (.slice A n c)) (by kernel_rfl) ?_ (fun hHeld => ?_)
          · exact HSX.out _ hkd
          refine wpAnyH_take (i := 0) (oi := ⟨some 51, _, _, _, _, _⟩) (v := ?_) rfl (by kernel_rfl) (by kernel_rfl) (by kernel_rfl) (fun _ _ _ h => h) (Or.inl ⟨by kernel_rfl, ?_⟩) (by assumption) ?_
          rotate_left
          · (intro w hSw; (try dsimp only at hSw); go_simp; try with_reducible rfl)
          (try simp only [Act.put, List.setIfInBounds_toArray, List.set_cons_zero, List.set_cons_succ])
          refine wpAnyH_take (i := 1) (oi := ⟨some 52, _, _, _, _, _⟩) (v := ?_) rfl (by kernel_rfl) (by kernel_rfl) (by kernel_rfl) (fun _ _ _ h => h) (Or.inl ⟨by kernel_rfl, ?_⟩) (by assumption) ?_
          rotate_left
          · (intro w hSw; (try dsimp only at hSw); go_simp; try with_reducible rfl)
          (try simp only [Act.put, List.setIfInBounds_toArray, List.set_cons_zero, List.set_cons_succ])
          refine wpAnyH_take (i := 2) (oi := ⟨some 53, _, _, _, _, _⟩) (v := ?_) rfl (by kernel_rfl) (by kernel_rfl) (by kernel_rfl) (fun _ _ _ h => h) (Or.inl ⟨by kernel_rfl, ?_⟩) (by assumption) ?_
          rotate_left
          · (intro w hSw; (try dsimp only at hSw); go_simp; try with_reducible rfl)
          (try simp only [Act.put, List.setIfInBounds_toArray, List.set_cons_zero, List.set_cons_succ])
          refine wpAnyH_take (i := 3) (oi := ⟨some 54, _, _, _, _, _⟩) (v := ?_) rfl (by kernel_rfl) (by kernel_rfl) (by kernel_rfl) (fun _ _ _ h => h) (Or.inl ⟨by kernel_rfl, ?_⟩) (by assumption) ?_
          rotate_left
          · (intro w hSw; (try dsimp only at hSw); go_simp; try with_reducible rfl)
          (try simp only [Act.put, List.setIfInBounds_toArray, List.set_cons_zero, List.set_cons_succ])
          refine wpAnyH_take (i := 4) (oi := ⟨some 55, _, _, _, _, _⟩) (v := ?_) rfl (by kernel_rfl) (by kernel_rfl) (by kernel_rfl) (fun _ _ _ h => h) (Or.inl ⟨by kernel_rfl, ?_⟩) (by assumption) ?_
          rotate_left
          · (intro w hSw; (try dsimp only at hSw); go_simp; try with_reducible rfl)
          (try simp only [Act.put, List.setIfInBounds_toArray, List.set_cons_zero, List.set_cons_succ])
          refine wpAnyH_take (i := 5) (oi := ⟨some 56, _, _, _, _, _⟩) (v := ?_) rfl (by kernel_rfl) (by kernel_rfl) (by kernel_rfl) (fun _ _ _ h => h) (Or.inl ⟨by kernel_rfl, ?_⟩) (by assumption) ?_
          rotate_left
          · (intro w hSw; (try dsimp only at hSw); go_simp; try with_reducible rfl)
          (try simp only [Act.put, List.setIfInBounds_toArray, List.set_cons_zero, List.set_cons_succ])
          refine wpAnyH_ready (rs := [6]) (by kernel_rfl) (by simp) ?_
          refine AllReadyH.cons (o := ⟨some 57, _, _, _, _, _⟩) rfl (fun K hK => ?_) AllReadyH.nil
          rw [if_pos (by kernel_rfl)]
          go_simp
          go_at_call 18; refine (HRP.out _ (HPL.out _ (HK6.out.trans (hkd.mono HK6.out.size)))).mono ?_; rintro e wa ⟨A9, c9, n9, rfl, hp9, hba⟩
          have hka := hkd.trans (hba.mono hkd.size)
          have HSM := Lib.hid (refSamePlace_any (.slice A n c) (.slice A9 n9 c9) x (wovenP f m l (u, s)) wa (HPX6.out wa hka) hp9)
          rw [show decide (x = wovenP f m l (u, s)) = true from decide_eq_true HXW.out, HXE.out] at HSM
          unfold plA wovenP at HSM
          refine hK.out _ _ ?_ (fun hHeld => ?_)
          · exact HSX.out _ hka
          clear hK K
          (try simp only [Act.put, List.setIfInBounds_toArray, List.set_cons_zero, List.set_cons_succ])
          refine wpAnyH_ready (rs := [7]) (by kernel_rfl) (by simp) ?_
          refine AllReadyH.cons (o := ⟨some 58, _, _, _, _, _⟩) rfl (fun K hK => ?_) AllReadyH.nil
          rw [if_pos (by kernel_rfl)]
          go_simp
          go_at_call 15; refine HSM.out.mono ?_; rintro e wb ⟨rfl, hbb⟩
          have hkb := hka.trans (hbb.mono hka.size)
          refine hK.out _ _ ?_ (fun hHeld => ?_)
          · exact HSX.out _ hkb
          clear hK K
          (try simp only [Act.put, List.setIfInBounds_toArray, List.set_cons_zero, List.set_cons_succ])
          refine wpAnyH_take (i := 8) (oi := ⟨some 59, _, _, _, _, _⟩) (v := ?_) rfl (by kernel_rfl) (by kernel_rfl) (by kernel_rfl) (fun _ _ _ h => h) (Or.inl ⟨by kernel_rfl, ?_⟩) (by assumption) ?_
          rotate_left
          · (intro w hSw; (try dsimp only at hSw); go_simp; try with_reducible rfl)
          (try simp only [Act.put, List.setIfInBounds_toArray, List.set_cons_zero, List.set_cons_succ])
          refine wpAnyH_take (i := 9) (oi := ⟨some 60, _, _, _, _, _⟩) (v := ?_) rfl (by kernel_rfl) (by kernel_rfl) (by kernel_rfl) (fun _ _ _ h => h) (Or.inl ⟨by kernel_rfl, ?_⟩) (by assumption) ?_
          rotate_left
          · (intro w hSw; (try dsimp only at hSw); go_simp; try with_reducible rfl)
          (try simp only [Act.put, List.setIfInBounds_toArray, List.set_cons_zero, List.set_cons_succ])
          refine wpAnyH_ready (rs := [10]) (by kernel_rfl) (by simp) ?_
          refine AllReadyH.cons (o := ⟨some 61, _, _, _, _, _⟩) rfl (fun K hK => ?_) AllReadyH.nil
          rw [if_pos (by kernel_rfl)]
          go_simp
          go_at_call 7; refine (HAW.out _).mono ?_; rintro e wc ⟨rfl, hbc⟩
          have hkc := hkb.trans (hbc.mono hkb.size)
          refine hK.out _ _ ?_ (fun hHeld => ?_)
          · exact HSX.out _ hkc
          clear hK K
          (try simp only [Act.put, List.setIfInBounds_toArray, List.set_cons_zero, List.set_cons_succ])
          refine wpAnyH_take (i := 11) (oi := ⟨some 62, _, _, _, _, _⟩) (v := ?_) rfl (by kernel_rfl) (by kernel_rfl) (by kernel_rfl) (fun _ _ _ h => h) (Or.inl ⟨by kernel_rfl, ?_⟩) (by assumption) ?_
          rotate_left
          · (intro w hSw; (try dsimp only at hSw); go_simp; try with_reducible rfl)
          (try simp only [Act.put, List.setIfInBounds_toArray, List.set_cons_zero, List.set_cons_succ])
          refine wpAnyH_take (i := 12) (oi := ⟨some 4, _, _, _, _, _⟩) (v := ?_) rfl (by kernel_rfl) (by kernel_rfl) (by kernel_rfl) (fun _ _ _ h => h) (Or.inl ⟨by kernel_rfl, ?_⟩) (by assumption) ?_
          rotate_left
          · (intro w hSw; (try dsimp only at hSw); go_simp; try with_reducible rfl)
          (try simp only [Act.put, List.setIfInBounds_toArray, List.set_cons_zero, List.set_cons_succ])
          refine wpAnyH_done (by kernel_rfl) ?_ _
          have HBE := Lib.hid (HB2.out.trans ((HK6.out.trans (hkc.mono HK6.out.size)).mono HB2.out.size))
          clear hHeld hkc hkb hka hkd hba hbb hbc hp9
          go_wp2_with fail
          go_ret
          exact ⟨rfl, HBE.out⟩
        · have hne : (E2 != 0) = true := by simp; exact hE
          have HXZ : Hid (x = zeroPl) := Lib.hid (HCA.out.resolve_right fun h => hE h.1).2
          have HHE := Lib.hid hE
          clear hE
          have HSM := Lib.hid (refSamePlace_any (.slice A n c) (.slice none 0 0) x zeroPl w9 (HPX6.out w9 HX9.out) (PcsIn.nil _ _))
          rw [show decide (x = zeroPl) = true from decide_eq_true HXZ.out, HXE.out] at HSM
          unfold plA zeroPl at HSM
          go_wp2_with fail
          refine HSM.out.mono ?_
          rintro e w10 ⟨rfl, hb10⟩
          have HX10 := Lib.hid (HX9.out.trans (hb10.mono HX9.out.size))
          clear hb10 r0 r1 r2 q0 q1 x0 x1 x2 x3
          go_wp2_with fail
          refine (HAW.out _).mono ?_
          rintro e wz ⟨rfl, hbz⟩
          have HBE := Lib.hid (HB2.out.trans ((HK6.out.trans ((HX10.out.trans (hbz.mono HX10.out.size)).mono HK6.out.size)).mono HB2.out.size))
          clear hbz
          go_wp2_with fail
          go_ret
          exact ⟨rfl, HBE.out⟩
      · rw [decide_eq_false hsm] at HSMA
        clear hsm
        go_wp2_with fail
        refine (HSMA.out _ (HK6.out.trans (HX7.out.mono HK6.out.size))).mono ?_
        rintro e w8 ⟨rfl, hb8⟩
        have HX8 := Lib.hid (HX7.out.trans (hb8.mono HX7.out.size))
        clear hb8 r0 r1 r2 q0 q1 x0 x1 x2 x3
        go_wp2_with fail
        refine (HAW.out _).mono ?_
        rintro e wz ⟨rfl, hbz⟩
        have HBE := Lib.hid (HB2.out.trans ((HK6.out.trans ((HX8.out.trans (hbz.mono HX8.out.size)).mono HK6.out.size)).mono HB2.out.size))
        clear hbz
        go_wp2_with fail
        go_ret
        exact ⟨rfl, HBE.out⟩
    · refine ((HRI.out _ HK6.out).2 hr).mono ?_
      rintro e w7 ⟨rfl, hb7⟩
      have HX7 := Lib.hid hb7
      have hE : E = 30 := HWH.out.unique (.inl ⟨by decide, .inl ⟨hr, rfl⟩⟩)
      subst hE
      have HXZ : Hid (x = zeroPl) := Lib.hid (HCA.out.resolve_right fun h => absurd h.1 (by decide)).2
      clear hb7 hr r0 r1 r2 q0 q1 x0 x1 x2 x3
      obtain ⟨r0, r1, r2, q0, q1, x0, x1, x2, x3⟩ := HSX.out _ HX7.out
      have HSM := Lib.hid (refSamePlace_any (.slice A n c) (.slice none 0 0) x zeroPl w7 (HPX6.out w7 HX7.out) (PcsIn.nil _ _))
      rw [show decide (x = zeroPl) = true from decide_eq_true HXZ.out, HXE.out] at HSM
      unfold plA zeroPl at HSM
      go_wp2_with fail
      refine HSM.out.mono ?_
      rintro e w10 ⟨rfl, hb10⟩
      have HX10 := Lib.hid (HX7.out.trans (hb10.mono HX7.out.size))
      clear hb10 r0 r1 r2 q0 q1 x0 x1 x2 x3
      go_wp2_with fail
      refine (HAW.out _).mono ?_
      rintro e wz ⟨rfl, hbz⟩
      have HBE := Lib.hid (HB2.out.trans ((HK6.out.trans ((HX10.out.trans (hbz.mono HX10.out.size)).mono HK6.out.size)).mono HB2.out.size))
      clear hbz
      go_wp2_with fail
      go_ret
      exact ⟨rfl, HBE.out⟩
  · have HLN := Lib.hid (fun W hk => (HLI.out W hk).2 hlit)
    clear HLI hlit
    go_enter Try.func4, Try.ntmps4
    go_wp2_with fail
    refine (HLN.out _ HK1.out).mono ?_
    rintro e w3 ⟨rfl, hb3⟩
    have HK3 := Lib.hid hb3
    clear hb3 r0 r1 r2 q0 q1 hw1 hP hw2 hQ
    go_wp2_with fail
    refine (HAW.out _).mono ?_
    rintro e w5 ⟨rfl, hb5⟩
    have HBE := Lib.hid (HB2.out.trans ((HK3.out.trans (hb5.mono HK3.out.size)).mono HB2.out.size))
    clear hb5
    go_wp2_with fail
    go_ret
    exact ⟨rfl, HBE.out⟩
end Go.Proofs.Ytkgkanmccaodfaa

/-
  Free of the document.
  Conditions: the slice reads as places; the numbers are small.
-/
set_option linter.unusedVariables false
namespace Go.Proofs.Ytkgkanmccaodfaa
open Go.RowKit Go.Sort

set_option maxRecDepth 100000 in
set_option maxHeartbeats 2000000 in
theorem refFree_any (f : Int) (m : Nat) (v : Value) (l : List Pl) (w : World) (h : PlsAt w v l) (hL : LightL l) (hS : Shares l) (hm : m < 4294967296) (hf : 0 ≤ f) (hf2 : f ≤ 64) :
    Calls Try.prog 20 #[planA f m v] w (RetB (.int .i64 (freeT f m l 16)) w) := by
  have HH := Lib.hid h
  have HR := Lib.hid (fun c w h => refRoom_any f m v l c w h hL hS hm hf hf2)
  have HFB := Lib.hid (fun k => free_bound f m l hL hS hf hf2 k)
  have HRB := Lib.hid (fun c => room_bound f m l hL hS hf hf2 c)
  unfold planA at HR
  obtain ⟨w1, P, hw1, hP, hPl, hb1, hbox⟩ := box_any w #[.int .i64 f, .int .u32 m, v] 25
  have HB1 := Lib.hid hb1
  have HBOX := Lib.hid hbox
  obtain ⟨r0, r1, r2⟩ := three_heads hbox
  clear h hL hS hb1 hbox
  unfold planA
  go_enter Try.func20, Try.ntmps20
  go_wp2_with fail
  clear hw1 hP r0 r1 r2
  go_loopg [3, 4] 16 (fun gg s3 s4 wr => ∃ (k : Nat) (q : Int), k ≤ 16 ∧ gg = 16 - k ∧ s4 = .int .i64 k ∧ s3 = .int .i64 q ∧ q = freeT f m l k ∧ Below w1.heap.size w1 wr)
  case atStart => exact ⟨0, 0, Nat.zero_le _, by omega, rfl, rfl, rfl, Below.refl _ _⟩
  case round =>
    obtain ⟨k, q, hk, hg, rfl, rfl, hq, hbw⟩ := hrel
    have HQ := Lib.hid hq
    have HBW := Lib.hid hbw
    have HB := Lib.hid (HB1.out.trans (hbw.mono HB1.out.size))
    have HG := Lib.hid hg
    obtain ⟨r0, r1, r2⟩ := three_heads ((hbw.block P hPl).trans HBOX.out)
    have hqb := HFB.out k
    rw [← hq] at hqb
    obtain ⟨hq1, hq2⟩ := hqb
    have hk16 : k ≤ 16 := hk
    clear hbw hg hq
    by_cases hlt : k < 16
    · have HRC := Lib.hid (HR.out (k : Int) wr (HH.out.keep HB.out))
      have hrb := HRB.out (k : Int)
      have HS := Lib.hid (show freeT f m l (k + 1) = freeT f m l k + roomN f m l (k : Int) from rfl)
      rw [← HQ.out] at HS
      generalize roomN f m l (k : Int) = rm at *
      obtain ⟨hr1, hr2⟩ := hrb
      have k1 : -400000 ≤ q := by omega
      have k2 : q ≤ 200000 := by omega
      clear hq1 hq2
      go_wp2_with fail
      refine HRC.out.mono ?_
      rintro e w3 ⟨rfl, hb3⟩
      have HB3 := Lib.hid (HBW.out.trans (hb3.mono HBW.out.size))
      clear hb3
      go_wp2_with fail
      go_roundg (16 - (k + 1))
      case measure => have := HG.out; omega
      case rel => exact ⟨k + 1, q + rm, by omega, rfl, by go_num, rfl, HS.out.symm, HB3.out⟩
    · have hk16' : k = 16 := by omega
      subst hk16'
      have HE : Hid (q = freeT f m l 16) := HQ.out
      clear hq1 hq2
      go_wp2
      go_ret
      exact ⟨ret_int HE.out, HB.out⟩
end Go.Proofs.Ytkgkanmccaodfaa
