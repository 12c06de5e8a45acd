/-
  How many are on, and their weights together; what one more pick is to those who are on.
  Conditions: those of each law.
-/
import Derived.Test.YtanchjcifhbllaaActs
set_option linter.unusedVariables false
namespace Go.Proofs.Ytanchjcifhbllaa
open Go.RowKit

theorem cnt_append : ∀ l k : List Mb, cntOn (l ++ k) = cntOn l + cntOn k ∧ sumOn (l ++ k) = sumOn l + sumOn k
  | [], k => by simp [cntOn, sumOn]
  | a :: l, k => by
    obtain ⟨i1, i2⟩ := cnt_append l k
    rw [List.cons_append]
    show (if a.on = true then 1 else 0) + cntOn (l ++ k) = (if a.on = true then 1 else 0) + cntOn l + cntOn k ∧ (if a.on = true then a.w else 0) + sumOn (l ++ k) = (if a.on = true then a.w else 0) + sumOn l + sumOn k
    rw [i1, i2]
    omega
theorem cnt_take {l : List Mb} {j : Nat} {m : Mb} (h : l[j]? = some m) : cntOn (l.take (j + 1)) = cntOn (l.take j) + (if m.on = true then 1 else 0) ∧ sumOn (l.take (j + 1)) = sumOn (l.take j) + (if m.on = true then m.w else 0) := by
  have h2 : l.take (j + 1) = l.take j ++ [m] := by rw [List.take_add_one, h]; rfl
  rw [h2]
  obtain ⟨a, b⟩ := cnt_append (l.take j) [m]
  rw [a, b]
  simp [cntOn, sumOn]
theorem cnt_shift (K : Nat) : ∀ l : List Mb, cntOn (l.map (shift K)) = cntOn l ∧ sumOn (l.map (shift K)) = sumOn l
  | [] => ⟨rfl, rfl⟩
  | a :: l => by
    obtain ⟨i1, i2⟩ := cnt_shift K l
    rw [List.map_cons]
    unfold cntOn sumOn
    rw [i1, i2]
    exact ⟨rfl, rfl⟩
theorem Ghost.sums {S P : Rg} (h : Ghost S P) : cntOn P.l = cntOn S.l ∧ sumOn P.l = sumOn S.l ∧ P.l.length = S.l.length := by
  obtain ⟨K, hl⟩ := h.l
  rw [hl, List.length_map]
  obtain ⟨a, b⟩ := cnt_shift K S.l
  exact ⟨a, b, rfl⟩
theorem Ghost.near {S P : Rg} (h : Ghost S P) : Near S.l := by
  obtain ⟨K, C, h1, h2, h3⟩ := h
  exact h3.all h2
theorem Ghost.pos {S P : Rg} (h : Ghost S P) : (∀ m ∈ S.l, 0 < m.w) ∧ Sorted S.l := by
  obtain ⟨K, C, h1, h2, h3⟩ := h
  exact ⟨h2.pos, h2.srt⟩
/-- A pick, while somebody is on. -/
theorem pick_on {S P : Rg} {l0 : List Mb} (hG : Ghost S P) (hs : Since l0 S.l) {k : Nat} {a : Mb} (ha : l0[k]? = some a) (hon : a.on = true) :
    ∃ x, best S.l = some x ∧ pickV P = .tuple #[.int .i64 x.2.id, .bool true] ∧ S.l[x.1]? = some x.2 ∧ (plainA S).2.l = S.l.set x.1 { x.2 with n := x.2.n + 1 } ∧ Since l0 (plainA S).2.l ∧ gotS l0 (plainA S).2.l = gotS l0 S.l + 1 := by
  obtain ⟨b, hb, hl⟩ := hs.some_ ha
  obtain ⟨x, hx⟩ := best_on hG.pos.1 (List.mem_of_getElem? hb) (hl.on.trans hon)
  obtain ⟨h1, h2, _⟩ := best_some hG.pos.1 hx
  obtain ⟨p1, p2⟩ := hs.pick h1 h2
  have he : (plainA S).2.l = S.l.set x.1 { x.2 with n := x.2.n + 1 } := by unfold plainA; rw [hx]; rfl
  refine ⟨x, hx, ?_, h1, he, by rw [he]; exact p1, by rw [he]; exact p2⟩
  rw [hG.pickV]
  unfold pickV
  rw [hx]
/-- A pick while nobody is on. -/
theorem pick_off {S P : Rg} (hG : Ghost S P) (h0 : cntOn S.l = 0) : pickV P = .tuple #[.int .i64 0, .bool false] ∧ (plainA S).2 = S := by
  have hb : best S.l = none := by
    cases h : best S.l with
    | none => rfl
    | some x =>
      obtain ⟨h1, h2, _⟩ := best_some hG.pos.1 h
      have := (sum_mem (List.mem_of_getElem? h1) h2).2
      omega
  rw [hG.pickV]
  unfold pickV plainA
  rw [hb]
  exact ⟨rfl, rfl⟩

set_option maxRecDepth 100000 in
set_option maxHeartbeats 2000000 in
theorem on_any (W : World) (B : Nat) (v : Value) (l : List Mb) (h : ToldAt W B v l) (hl : l.length ≤ 32) (hw : ∀ m ∈ l, m.w ≤ 1000) :
    Calls Try.prog 18 #[v] W (RetB (.tuple #[.int .i64 (cntOn l), .int .i64 (sumOn l)]) W) := by
  obtain ⟨b, rfl, hb, hbl, hc⟩ := h
  have HC := Lib.hid hc
  have HBL := Lib.hid hbl
  have HW := Lib.hid hw
  obtain ⟨n, hn⟩ : ∃ n, l.length = n := ⟨_, rfl⟩
  have HN := Lib.hid hn
  have HFIN := Lib.hid (show cntOn (l.take n) = cntOn l ∧ sumOn (l.take n) = sumOn l by rw [← hn, List.take_length]; exact ⟨rfl, rfl⟩)
  rw [hn] at hl ⊢
  have HSL : Hid (∀ j, j ≤ n → cntOn (l.take j) ≤ 32 ∧ sumOn (l.take j) ≤ 32000) := fun j hj => by
    obtain ⟨a, b⟩ := sum_le (l := l.take j) (fun m hm => HW.out m (List.mem_of_mem_take hm))
    rw [List.length_take] at b
    omega
  obtain ⟨rc, hrc⟩ : ∃ rc, cntOn l = rc := ⟨_, rfl⟩
  obtain ⟨rs, hrs⟩ : ∃ rs, sumOn l = rs := ⟨_, rfl⟩
  rw [hrc, hrs] at HFIN ⊢
  clear hc hw hn hb hbl hrc hrs
  go_enter Try.func18, Try.ntmps18
  go_wp2_with fail
  go_loopg [4, 5, 10] n (fun gg s4 s5 s10 wr => ∃ j : Nat, j ≤ n ∧ gg = n - j ∧ s4 = .int .i64 (cntOn (l.take j)) ∧ s5 = .int .i64 (sumOn (l.take j)) ∧ s10 = .int .i64 j ∧ Below W.heap.size W wr)
  case atStart => exact ⟨0, Nat.zero_le _, by omega, rfl, rfl, rfl, Below.refl _ _⟩
  case round =>
    obtain ⟨j, hj, hg, rfl, rfl, rfl, hbw⟩ := hrel
    have HB := Lib.hid hbw
    have HG := Lib.hid hg
    obtain ⟨s1, s2⟩ := HSL.out j hj
    clear hbw hg
    by_cases hlt : j < n
    · have hltz : (j : Int) < (n : Int) := by omega
      have hj0 : (0 : Int) ≤ (j : Int) := by omega
      obtain ⟨m, hm⟩ := ex_at (xs := l) (k := j) (by have := HN.out; omega)
      obtain ⟨a0, a1, a2⟩ := HC.out j m hm
      have e6 := HB.out.block b HBL.out
      have t0 := (cell_same e6 _).trans a0
      have t1 := (cell_same e6 _).trans a1
      have t2 := (cell_same e6 _).trans a2
      obtain ⟨k1, k2⟩ := cnt_take hm
      have hmw := HW.out m (List.mem_of_getElem? hm)
      have HK := Lib.hid (And.intro k1 k2)
      clear k1 k2 a0 a1 a2 e6 hm
      obtain ⟨m1, m2, m3, m4⟩ := m
      simp only at t0 t1 t2 hmw HK
      generalize cntOn (l.take j) = cj at *
      generalize sumOn (l.take j) = sj at *
      cases m4 with
      | true =>
        go_wp2_with fail
        go_roundg (n - (j + 1))
        case measure => have := HG.out; omega
        case rel =>
          refine ⟨j + 1, by omega, rfl, ?_, ?_, by go_num, HB.out.alloc HB.out.size _⟩
          · rw [HK.out.1]; simp only [if_true]; go_num
          · rw [HK.out.2]; simp only [if_true]; go_num
      | false =>
        go_wp2_with fail
        go_roundg (n - (j + 1))
        case measure => have := HG.out; omega
        case rel =>
          refine ⟨j + 1, by omega, rfl, ?_, ?_, by go_num, HB.out.alloc HB.out.size _⟩
          · rw [HK.out.1, if_neg (by decide)]; rfl
          · rw [HK.out.2, if_neg (by decide)]; rfl
    · have hltz : ¬ (j : Int) < (n : Int) := by omega
      have hjn : j = n := by omega
      subst hjn
      rw [HFIN.out.1, HFIN.out.2]
      clear s1 s2
      go_wp2
      go_ret2
      exact ⟨rfl, HB.out⟩
end Go.Proofs.Ytanchjcifhbllaa
