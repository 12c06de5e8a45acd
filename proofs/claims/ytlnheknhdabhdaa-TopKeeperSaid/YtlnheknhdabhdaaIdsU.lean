/-
  Lists of ints in memory; two of them held against each other; IDs of the program.
  Conditions: the table lies in memory.
-/
import Derived.Test.YtlnheknhdabhdaaHeldU
import Derived.Test.YtlnheknhdabhdaaNums
set_option linter.unusedVariables false
namespace Go.Proofs.Ytlnheknhdabhdaa
open Go.RowKit TU

/-- The slice value 'v' reads as the numbers 'xs'; it lies in memory that is there. -/
def IntsAt (W : World) (v : Value) (xs : List Int) : Prop :=
  ∃ A c, v = .slice A xs.length c ∧ xs.length ≤ 9223372036854775807 ∧
    (0 < xs.length → ∃ b off, A = some ⟨b, off, none⟩ ∧ b < W.heap.size ∧ ∀ (j : Nat) (x : Int), xs[j]? = some x → W.cell? ⟨b, off + j, none⟩ = some (.int .i64 x))

theorem IntsAt.nil (W : World) : IntsAt W (.slice none 0 0) [] := ⟨none, 0, rfl, by decide, fun h => absurd h (by decide)⟩

theorem IntsAt.keep {W W' : World} {v : Value} {xs : List Int} (h : IntsAt W v xs) (hb : Below W.heap.size W W') : IntsAt W' v xs := by
  obtain ⟨A, c, h1, h2, h3⟩ := h
  refine ⟨A, c, h1, h2, fun hn => ?_⟩
  obtain ⟨b, off, e, hlt, hc⟩ := h3 hn
  exact ⟨b, off, e, Nat.lt_of_lt_of_le hlt hb.size, fun j x hx => (hb.cell (p := ⟨b, off + j, none⟩) hlt).trans (hc j x hx)⟩

/-- A list that a call answers. -/
def RetL (xs : List Int) (w : World) (e : Ending) (w' : World) : Prop := ∃ v, e = .returned v ∧ IntsAt w' v xs ∧ Below w.heap.size w w'

theorem ints_of_own {W : World} {base : Nat} {v : Value} {xs : List Int} (h : W.ownsRow base 3 1 v xs.length (xs.map (Value.int .i64))) (hl : xs.length ≤ 9223372036854775807) : IntsAt W v xs := by
  obtain ⟨h1, h2⟩ := h
  rcases h2 with ⟨rfl, h0⟩ | ⟨g, cap, cur, rfl, hg, hh, hn, hc, hs, ht⟩
  · have : xs = [] := List.eq_nil_of_length_eq_zero h0
    subst this
    exact IntsAt.nil W
  · refine ⟨_, _, rfl, hl, fun _ => ⟨g, 0, rfl, ?_, fun j x hx => ?_⟩⟩
    · rcases Nat.lt_or_ge g W.heap.size with h' | h'
      · exact h'
      · rw [Array.getElem?_eq_none h'] at hh; cases hh
    · rw [Nat.zero_add, cell_of_row W g j _ _ (0, 0) hh]
      have hj : j < xs.length := (List.getElem?_eq_some_iff.1 hx).1
      have : (cur.toList.take (xs.length * 1))[j]? = some (.int .i64 x) := by rw [ht, List.getElem?_map, hx]; rfl
      rw [List.getElem?_take, if_pos (by omega)] at this
      rw [← this]
      simp

theorem len_small {n : Nat} (h : n ≤ 100000) : n ≤ maxLen := by unfold maxLen; omega
theorem bytes_small {n : Nat} (b : Nat) (hb : b ≤ 1000) (h : n ≤ 100000) : n * b ≤ 140737488355328 := Nat.le_trans (Nat.mul_le_mul h hb) (by decide)

def idsI (u : Nat → Bool) (m : Nat) : List Int := (idsU u m).map (fun t : Nat => (t : Int))
theorem idsI_length (u : Nat → Bool) (m : Nat) : (idsI u m).length = cntU u m := by unfold idsI; rw [List.length_map, idsU_length]
theorem idsI_yes {u : Nat → Bool} {k : Nat} (h : u k = true) : idsI u (k + 1) = idsI u k ++ [((k + 1 : Nat) : Int)] := by
  unfold idsI
  rw [show idsU u (k + 1) = (if u k = true then idsU u k ++ [k + 1] else idsU u k) from rfl, if_pos h, List.map_append]
  rfl
theorem idsI_no {u : Nat → Bool} {k : Nat} (h : u k = false) : idsI u (k + 1) = idsI u k := by
  unfold idsI
  rw [show idsU u (k + 1) = (if u k = true then idsU u k ++ [k + 1] else idsU u k) from rfl, if_neg (by rw [h]; simp)]

def IdsRel (u : Nat → Bool) (m : Nat) (w : World) (g : Nat) (s i : Value) (wr : World) : Prop :=
  ∃ k : Nat, k ≤ m ∧ g = m - k ∧ i = .int .i64 k ∧ Below w.heap.size w wr ∧ wr.ownsRow w.heap.size 3 1 s (idsI u k).length ((idsI u k).map (Value.int .i64))

theorem ids_nil (W : World) : Calls Try.prog 20 #[.pointer none] W (Ret (.slice none 0 0) W) := by
  go_enter Try.func20, Try.ntmps20
  go_wp2
  go_ret
  exact ⟨rfl, rfl⟩

set_option maxRecDepth 100000 in
set_option maxHeartbeats 4000000 in
theorem ids_any (W : World) (tb : Nat) (sv fv : Value) (s : Ts Int) (h : TabAt W tb sv fv s) (hm : s.m ≤ 1024) :
    Calls Try.prog 20 #[.pointer (some ⟨tb, 0, none⟩)] W (RetL (idsI s.use s.m) W) := by
  obtain ⟨i0, hi0, hz0, hz1, hz2⟩ := info_parts Try.infoInt
  obtain ⟨c0, c1, c2, _, _⟩ := h.heads
  obtain ⟨A, c, rfl⟩ := h.slots.form
  have HS := Lib.hid h.slots
  obtain ⟨m, hmm⟩ : ∃ m, s.m = m := ⟨_, rfl⟩
  rw [hmm] at c1 hm HS ⊢
  generalize s.n = n at *
  clear h hmm c0 c2
  go_enter Try.func20, Try.ntmps20
  go_wp2_with fail
  go_loopg [3, 13] m (fun g s3 s13 wr => IdsRel s.use m W g s3 s13 wr)
  case atStart => exact ⟨0, Nat.zero_le _, rfl, rfl, Below.refl _ _, ⟨rfl, .inl ⟨rfl, rfl⟩⟩⟩
  case round =>
    obtain ⟨k, hk, hg, rfl, hbr, hown⟩ := hrel
    have HG := Lib.hid hg
    have HB := Lib.hid hbr
    have HO := Lib.hid hown
    clear hg hbr hown
    by_cases hlt : k < m
    · obtain ⟨g, cap, hv, _, _, hgl, hc, _⟩ := HS.out.row (by omega)
      injection hv with e1 e2 e3
      subst e1
      obtain ⟨k0, k1, k2⟩ := hc k hlt
      have j0 := (HB.out.cell (p := ⟨g, k * 3, none⟩) hgl).trans k0
      have j1 := (HB.out.cell (p := ⟨g, k * 3 + 1, none⟩) hgl).trans k1
      have j2 := (HB.out.cell (p := ⟨g, k * 3 + 2, none⟩) hgl).trans k2
      have hlen : cntU s.use k ≤ k := cntU_le s.use k
      rw [idsI_length] at HO
      generalize hn : cntU s.use k = cn at *
      have HN := Lib.hid hn
      have y0 : (k : Int) < (m : Int) := Int.ofNat_lt.2 hlt
      have hsz := HB.out.size
      generalize s.x k = x at *
      generalize s.gen k = ge at *
      clear hn hc k0 k1 k2 e2 e3
      cases hb : s.use k
      · have HE := Lib.hid (idsI_no hb)
        rw [hb] at j2
        clear hb
        go_wp2_with fail
        go_roundg (m - (k + 1))
        case measure => have := HG.out; omega
        case rel => exact ⟨k + 1, by omega, rfl, by go_num, HB.out.alloc hsz _, by rw [HE.out, idsI_length, HN.out]; exact HO.out.alloc _⟩
      · have HE := Lib.hid (idsI_yes hb)
        rw [hb] at j2
        have KB := Lib.hid (show cn + 1 ≤ 100000 by omega)
        have HOA := Lib.hid (HO.out.alloc (.cells #[.int .u64 x, .int .i64 ge, .bool true] 71))
        have HBA := Lib.hid (show Below W.heap.size W (wr.alloc (.cells #[.int .u64 x, .int .i64 ge, .bool true] 71)) from HB.out.alloc hsz _)
        clear hb
        go_upto_region 8 with fail
        generalize hwa : wr.alloc (.cells #[.int .u64 x, .int .i64 ge, .bool true] 71) = wa at HOA HBA ⊢
        have hsa := HBA.out.size
        clear hwa HB HO j0 j1 j2
        go_wp2_with (at_builtin; refine wpList_append_own _ rfl _ _ 54 rfl W.heap.size 3 i0 (.int .i64 0) 1 8 Try.underlying54 hi0 hz0 hz1 hz2 rfl (by decide) _ _ _ rfl (HOA.out.alloc _) ⟨wa.heap.size, 0, none⟩ 1 1 [.int .i64 (k + 1)] rfl rfl ?c1 ?c2 ?c3 ?c4 ?c5 ?_)
        case c1 =>
          intro j u hj
          rcases j with _ | j
          · simpa [Addr.add] using hj
          · simp at hj
        case c2 => intro u hu; simp at hu; subst hu; rfl
        case c3 => exact len_small KB.out
        case c4 => exact bytes_small 8 (by decide) KB.out
        case c5 => exact Nat.le_trans hsa (Nat.le_trans (Nat.le_succ _) (Nat.le_of_eq (World.size_alloc _ _).symm))
        intro v2 w2 hown2 hgrow _
        have HB2 := Lib.hid ((HBA.out.alloc hsa _).trans (below_grown hgrow (Nat.le_trans hsa (Nat.le_trans (Nat.le_succ _) (Nat.le_of_eq (World.size_alloc _ _).symm))) (own_base HOA.out)))
        have HO2 := Lib.hid hown2
        clear hown2 hgrow hsz hsa
        go_wp2_with fail
        go_roundg (m - (k + 1))
        case measure => have := HG.out; omega
        case rel =>
          refine ⟨k + 1, by omega, rfl, by go_num, HB2.out, ?_⟩
          have e := HO2.out
          rw [HE.out, List.length_append, idsI_length, HN.out, List.map_append]
          exact e
    · have hkm : k = m := by omega
      subst hkm
      have HR := Lib.hid (ints_of_own HO.out (by rw [idsI_length]; have := cntU_le s.use k; omega))
      go_wp2_with fail
      go_ret
      exact ⟨_, rfl, HR.out, HB.out⟩
end Go.Proofs.Ytlnheknhdabhdaa
