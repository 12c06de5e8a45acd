/-
  Rows of places, each with where its pieces lie.
  Conditions: none.
-/
import Derived.Test.YtpblfonkcibagaaFind
set_option linter.unusedVariables false
namespace Go.Proofs.Ytpblfonkcibagaa
open Go.RowKit

/-- A place, and where its pieces lie. -/
abbrev Rp := (Option Addr × Nat) × Pl
def rpV (r : Rp) : Value := .slice r.1.1 r.2.ps.length r.1.2
def rpCells (m : Rp) : List Value := [.int .i64 m.2.u, .int .i64 m.2.s, .int .i64 m.2.c, rpV m]
def rowP (l : List Rp) : List Value := l.flatMap rpCells
theorem rowP_cons (m : Rp) (l : List Rp) : rowP (m :: l) = .int .i64 m.2.u :: .int .i64 m.2.s :: .int .i64 m.2.c :: rpV m :: rowP l := by simp [rowP, rpCells]
theorem rowP_append (l k : List Rp) : rowP (l ++ k) = rowP l ++ rowP k := by simp [rowP]
theorem rowP_length : ∀ (l : List Rp), (rowP l).length = l.length * 4
  | [] => rfl
  | m :: l => by rw [rowP_cons]; simp [rowP_length l]; omega
theorem rowP_get : ∀ (l : List Rp) (j : Nat) (m : Rp), l[j]? = some m → (rowP l)[j * 4]? = some (.int .i64 m.2.u) ∧ (rowP l)[j * 4 + 1]? = some (.int .i64 m.2.s) ∧ (rowP l)[j * 4 + 2]? = some (.int .i64 m.2.c) ∧ (rowP l)[j * 4 + 3]? = some (rpV m)
  | [], j, m, h => by simp at h
  | x :: l, 0, m, h => by
    simp at h
    subst h
    exact ⟨rfl, rfl, rfl, rfl⟩
  | x :: l, j + 1, m, h => by
    have ih := rowP_get l j m (by simpa using h)
    rw [rowP_cons, show (j + 1) * 4 = j * 4 + 1 + 1 + 1 + 1 by omega]
    simpa using ih
theorem rowP_one (l : List Rp) : ∀ u ∈ rowP l, u.oneCell' = true := by
  intro u hu
  obtain ⟨m, _, hm⟩ := List.mem_flatMap.1 hu
  simp [rpCells] at hm
  rcases hm with rfl | rfl | rfl | rfl <;> rfl
theorem rowP_take : ∀ (l : List Rp) (i : Nat), (rowP l).take (i * 4) = rowP (l.take i)
  | [], i => by simp [rowP]
  | m :: l, 0 => by simp [rowP]
  | m :: l, i + 1 => by
    rw [rowP_cons, show (i + 1) * 4 = i * 4 + 1 + 1 + 1 + 1 by omega, List.take_succ_cons, List.take_succ_cons, List.take_succ_cons, List.take_succ_cons, rowP_take l i, List.take_succ_cons, rowP_cons]
theorem rowP_drop : ∀ (l : List Rp) (i : Nat), (rowP l).drop (i * 4) = rowP (l.drop i)
  | [], i => by simp [rowP]
  | m :: l, 0 => by simp [rowP]
  | m :: l, i + 1 => by
    rw [rowP_cons, show (i + 1) * 4 = i * 4 + 1 + 1 + 1 + 1 by omega, List.drop_succ_cons, List.drop_succ_cons, List.drop_succ_cons, List.drop_succ_cons, rowP_drop l i, List.drop_succ_cons]
theorem rp_of {F : Nat → Prop} {W : World} {v : Value} {x : Pl} (h : PcsIn F W v x.ps) : ∃ r : Rp, r.2 = x ∧ rpV r = v := by
  obtain ⟨A, d, rfl⟩ := h.form
  exact ⟨((A, d), x), rfl, rfl⟩
def plsR (ls : List Rp) : List Pl := ls.map Prod.snd
/-- All pieces of the places lie in blocks of F. -/
def AllPcs (F : Nat → Prop) (W : World) (ls : List Rp) : Prop := ∀ r ∈ ls, PcsIn F W (rpV r) r.2.ps
theorem AllPcs.keepF {F : Nat → Prop} {W W' : World} {ls : List Rp} (h : AllPcs F W ls) (hs : W.heap.size ≤ W'.heap.size) (hk : ∀ b, b < W.heap.size → F b → W'.heap[b]? = W.heap[b]?) : AllPcs F W' ls := fun r hr => (h r hr).keepF hs hk
theorem AllPcs.keep {F : Nat → Prop} {W W' : World} {ls : List Rp} (h : AllPcs F W ls) (hb : Below W.heap.size W W') : AllPcs F W' ls := fun r hr => (h r hr).keep hb
theorem AllPcs.mono {F G : Nat → Prop} {W : World} {ls : List Rp} (h : AllPcs F W ls) (hg : ∀ b, b < W.heap.size → F b → G b) : AllPcs G W ls := fun r hr => (h r hr).mono hg
theorem AllPcs.nil (F : Nat → Prop) (W : World) : AllPcs F W [] := fun r hr => by cases hr
theorem AllPcs.snoc {F : Nat → Prop} {W : World} {ls : List Rp} (h : AllPcs F W ls) {r : Rp} (hr : PcsIn F W (rpV r) r.2.ps) : AllPcs F W (ls ++ [r]) := fun x hx => by
  rcases List.mem_append.1 hx with hx | hx
  · exact h x hx
  · rw [List.mem_singleton.1 hx]; exact hr
/-- A row of one's own that reads as places, their pieces in blocks of F. -/
theorem pls_of_own {W : World} {base : Nat} {v : Value} {ls : List Rp} {F : Nat → Prop} (h : W.ownsRow base 33 4 v ls.length (rowP ls)) (hp : AllPcs F W ls) : PlsIn (fun b => F b ∨ base ≤ b) W v (plsR ls) := by
  have hpp : ∀ p ∈ ls.map (fun r => (rpV r, r.2)), PcsIn (fun b => F b ∨ base ≤ b) W p.1 p.2.ps := fun p hp' => by
    obtain ⟨r, hr, rfl⟩ := List.mem_map.1 hp'
    exact (hp r hr).mono fun b _ hF => .inl hF
  have hl : (ls.map (fun r => (rpV r, r.2))).length = ls.length := by simp
  have he : plsOf (ls.map (fun r => (rpV r, r.2))) = plsR ls := by unfold plsOf plsR; rw [List.map_map]; rfl
  obtain ⟨h1, h2⟩ := h
  rcases h2 with ⟨rfl, h0⟩ | ⟨g, cap, cur, rfl, hg, hh, hn, hc, hs, ht⟩
  · have : ls = [] := List.eq_nil_of_length_eq_zero h0
    subst this
    exact PlsIn.nil _ W
  · refine ⟨_, he, _, cap, by rw [hl], by rw [hl]; exact hn, by unfold maxLen at hc; omega, fun _ => ⟨g, 0, rfl, heap_lt hh, .inr hg, fun j p hp' => ?_⟩, hpp⟩
    rw [List.getElem?_map] at hp'
    obtain ⟨r, hr, rfl⟩ := Option.map_eq_some_iff.1 hp'
    have hj : j < ls.length := (List.getElem?_eq_some_iff.1 hr).1
    obtain ⟨g0, g1, g2, g3⟩ := rowP_get ls j r hr
    have key : ∀ (i : Nat) (u : Value), i < ls.length * 4 → (rowP ls)[i]? = some u → W.cell? ⟨g, 0 + i, none⟩ = some u := by
      intro i u hi hu
      rw [Nat.zero_add, cell_of_row W g i _ _ (0, 0) hh, ← hu, ← ht, List.getElem?_take, if_pos hi]
      simp
    exact ⟨key _ _ (by omega) g0, by rw [Nat.add_assoc]; exact key _ _ (by omega) g1, by rw [Nat.add_assoc]; exact key _ _ (by omega) g2, by rw [Nat.add_assoc]; exact key _ _ (by omega) g3⟩
/-- Places that lie: each with where its pieces lie. -/
theorem pls_rows {F : Nat → Prop} {W : World} {v : Value} {l : List Pl} (h : PlsIn F W v l) : ∃ ls : List Rp, plsR ls = l ∧ AllPcs F W ls ∧ ∃ A c, v = .slice A l.length c ∧ (0 < l.length → ∃ b off, A = some ⟨b, off, none⟩ ∧ b < W.heap.size ∧ F b ∧ ∀ (i : Nat) (u : Value), (rowP ls)[i]? = some u → W.cell? ⟨b, off + i, none⟩ = some u) := by
  obtain ⟨qs, rfl, A, c, rfl, h2, h3, h4, h5⟩ := h
  have key : ∀ qs : List (Value × Pl), (∀ p ∈ qs, PcsIn F W p.1 p.2.ps) → ∃ ls : List Rp, ls.map (fun r => (rpV r, r.2)) = qs := by
    intro qs
    induction qs with
    | nil => exact fun _ => ⟨[], rfl⟩
    | cons p qs ih =>
      intro hq
      obtain ⟨ls, hls⟩ := ih fun q hq' => hq q (by simp [hq'])
      obtain ⟨r, hr1, hr2⟩ := rp_of (hq p (by simp))
      exact ⟨r :: ls, by rw [List.map_cons, hls, hr1, hr2]⟩
  obtain ⟨ls, hls⟩ := key qs h5
  subst hls
  have he : plsOf (ls.map (fun r => (rpV r, r.2))) = plsR ls := by unfold plsOf plsR; rw [List.map_map]; rfl
  rw [he]
  have hlen : (plsR ls).length = ls.length := by unfold plsR; simp
  refine ⟨ls, rfl, fun r hr => h5 (rpV r, r.2) (List.mem_map.2 ⟨r, hr, rfl⟩), A, c, by rw [hlen, List.length_map], fun h0 => ?_⟩
  obtain ⟨b, off, e, hlt, hf, hc⟩ := h4 (by rw [List.length_map]; omega)
  refine ⟨b, off, e, hlt, hf, fun i u hu => ?_⟩
  have hi : i < ls.length * 4 := by
    have := (List.getElem?_eq_some_iff.1 hu).1
    rwa [rowP_length] at this
  obtain ⟨r, hr⟩ := exP_at (xs := ls) (k := i / 4) (by omega)
  obtain ⟨g0, g1, g2, g3⟩ := rowP_get ls (i / 4) r hr
  obtain ⟨k0, k1, k2, k3⟩ := hc (i / 4) (rpV r, r.2) (by rw [List.getElem?_map, hr]; rfl)
  have hm : i = i / 4 * 4 ∨ i = i / 4 * 4 + 1 ∨ i = i / 4 * 4 + 2 ∨ i = i / 4 * 4 + 3 := by omega
  generalize i / 4 = q at *
  rcases hm with rfl | rfl | rfl | rfl
  · rw [g0] at hu; rw [k0]; exact hu
  · rw [g1] at hu; rw [← Nat.add_assoc, k1]; exact hu
  · rw [g2] at hu; rw [← Nat.add_assoc, k2]; exact hu
  · rw [g3] at hu; rw [← Nat.add_assoc, k3]; exact hu
end Go.Proofs.Ytpblfonkcibagaa
