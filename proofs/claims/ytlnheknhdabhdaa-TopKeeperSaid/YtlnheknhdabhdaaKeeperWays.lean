/-
  What TopKeeper's rounds rest on: the rounds' states; the ids and their records.
  Conditions: none.
-/
import Derived.Test.YtlnheknhdabhdaaKeeperMath
import Derived.Test.YtlnheknhdabhdaaHeldU
import Derived.Test.YtlnheknhdabhdaaReader
import Derived.Test.YtlnheknhdabhdaaBackMath
import Derived.Test.YtlnheknhdabhdaaBegins10
set_option linter.unusedVariables false
namespace Go.Proofs.Ytlnheknhdabhdaa
open Go.RowKit Go.Maps TU

theorem words_lit (W : World) (xs : List Nat) (h : ∀ x ∈ xs, x < 18446744073709551616) (hl : xs.length ≤ 100000) :
    WordsAt (W.alloc (.cells (xs.map fun n : Nat => Value.int .u64 n).toArray 47)) (.slice (some ⟨W.heap.size, 0, none⟩) xs.length xs.length) xs := by
  refine ⟨_, _, rfl, Nat.le_refl _, by omega, fun e => (by cases e), h, fun _ => ⟨_, _, rfl, heap_lt (heap_alloc_new W _), fun j x hx => ?_⟩⟩
  rw [Nat.zero_add, cell_of_row _ W.heap.size j _ _ (0, 0) (heap_alloc_new W _)]
  simp [hx]
theorem foot_grew {w : World} {tb k : Nat} {sv fv sv' fv' : Value} (g1 : Grew w sv sv') (g2 : Grew w fv fv') (hlt : k < w.heap.size) (hf : Foot tb sv' fv' k) : Foot tb sv fv k := by
  rcases hf with rfl | hf | hf
  · exact .inl rfl
  · rcases g1 k hf with h | h
    · exact .inr (.inl h)
    · omega
  · rcases g2 k hf with h | h
    · exact .inr (.inr h)
    · omega
theorem apart_over {g B : Nat} {w0 w w' : World} (h0 : Below B w0 w) (h : Apart (fun k => k = g) w w') (hB : B ≤ w.heap.size) (hg : B ≤ g) : Below B w0 w' :=
  h0.trans (h.below hB (fun k hk e => by omega))
/-- What is written into the map leaves the table. -/
theorem TU.Held.mapped {B : Nat} {W0 w w' : World} {tb mb : Nat} {sv fv : Value} {s : Ts Int} (h : Held B W0 w tb sv fv s) (hg : w.grownBy w' (some mb)) (hn : ¬ Foot tb sv fv mb) (hm : B ≤ mb) : Held B W0 w' tb sv fv s :=
  ⟨h.lies.keep (fun k hf => hg.block k (h.lies.foot hf) (fun e => hn (by injection e with e; rw [← e]; exact hf))), h.ok, h.h1, h.h2, h.h3, h.bel.grown hg h.hB (fun k hk => by injection hk with hk; subst hk; exact hm), Nat.le_trans h.hB hg.size⟩

def KRel (L B : Nat) (W0 : World) (tb mb : Nat) (g : Nat) (s8 : Value) (wr : World) : Prop :=
  ∃ (i : Nat) (sv fv : Value) (s : Ts Int) (D : DataW Unit), i ≤ L ∧ i ≤ 60 ∧ g = L - i ∧ s8 = .int .i64 i ∧ Held B W0 wr tb sv fv s ∧ s.n = 64 ∧ cntU s.use s.m ≤ i ∧ (∀ j, s.gen j ≤ i + 1) ∧ Kp wr mb i D s ∧ ¬ Foot tb sv fv mb ∧ WordsIn s

theorem kp_new {w : World} {R : Nat} (h : w.ownsMap Try.prog 3 (plainElem (H := Unit) Try.prog 47) R 0 (.map [])) : Kp w R 0 (.map []) (newT 64 0) := by
  refine ⟨h, fun q => ?_, fun i hi _ => absurd hi (Nat.not_lt_zero i), rfl⟩
  cases hq : inU (newT 64 0 : Ts Int) q
  · rfl
  · obtain ⟨i, _, hi, _⟩ := inU_iff.1 hq
    exact absurd hi (Nat.not_lt_zero i)

/-- The bytes that tell of id t. -/
def tellT (s : Ts Int) (t : Nat) : List Nat := encs [t, (s.x (t - 1)).toNat]
def gsT (s : Ts Int) : List (Value × List Nat) := (idsU s.use s.m).map fun t => (undef, tellT s t)
theorem gsT_length (s : Ts Int) : (gsT s).length = cntU s.use s.m := by unfold gsT; rw [List.length_map, idsU_length]
theorem tell_good {t x : Nat} (ht : t < 18446744073709551616) (hx : x < 18446744073709551616) : 1 ≤ (encs [t, x]).length ∧ (encs [t, x]).length ≤ 120 := by
  have h1 := encs_length [t, x] (fun n hn => by simp at hn; rcases hn with rfl | rfl <;> assumption)
  have h2 := enc_pos t
  rw [encs_cons, List.length_append] at h1 ⊢
  simp only [List.length_cons, List.length_nil] at h1
  omega
/-- The id at j, and what it holds. -/
theorem id_at {s : Ts Int} (o : Okay s) (hn : s.n = 64) (hw : WordsIn s) {j : Nat} (hj : j < cntU s.use s.m) :
    ∃ t x i : Nat, (idsU s.use s.m)[j]? = some t ∧ (idsI s.use s.m)[j]? = some (t : Int) ∧ t = i + 1 ∧ t ≤ 64 ∧ i < s.m ∧ s.use i = true ∧ inU s (t : Int) = true ∧ x < 18446744073709551616 ∧ s.x i = (x : Int) ∧ (gsT s)[j]? = some (undef, encs [t, x]) ∧ findV s (t : Int) = .tuple #[.int .u64 (x : Int), .int .i64 (s.gen i), .bool true] := by
  obtain ⟨t, ht⟩ := ex_at (xs := idsU s.use s.m) (k := j) (by rw [idsU_length]; exact hj)
  obtain ⟨i, hti, hi, hu⟩ := idsU_mem (List.mem_of_getElem? ht)
  have hin : inU s ((i + 1 : Nat) : Int) = true := inU_iff.2 ⟨i, rfl, hi, hu⟩
  obtain ⟨x, hx, hsx⟩ := hw i hin
  have hmn := o.mn
  subst hti
  refine ⟨i + 1, x, i, ht, ?_, rfl, by omega, hi, hu, hin, hx, hsx, ?_, ?_⟩
  · unfold idsI
    rw [List.getElem?_map, ht]
    rfl
  · unfold gsT tellT
    rw [List.getElem?_map, ht, Option.map_some, show i + 1 - 1 = i by omega, hsx, Int.toNat_natCast]
  · unfold findV
    rw [if_pos hin, Int.toNat_natCast, show i + 1 - 1 = i by omega, hsx]
theorem gs_good {s : Ts Int} (o : Okay s) (hn : s.n = 64) (hw : WordsIn s) : ∀ p ∈ gsT s, goodP p = true := by
  intro p hp
  obtain ⟨j, hj⟩ := List.getElem?_of_mem hp
  have hlt := (List.getElem?_eq_some_iff.1 hj).1
  rw [gsT_length] at hlt
  obtain ⟨t, x, i, _, _, _, ht, _, _, _, hx, _, hg, _⟩ := id_at o hn hw hlt
  rw [hj] at hg
  injection hg with hg
  subst hg
  obtain ⟨h1, h2⟩ := tell_good (t := t) (x := x) (by omega) hx
  exact goodP_yes h1 h2
theorem flat_take {gs : List (Value × List Nat)} {j : Nat} {p : Value × List Nat} (h : gs[j]? = some p) : flatT (gs.take (j + 1)) = flatT (gs.take j) ++ sealT p.2 := by
  rw [List.take_add_one, h, flatT_append, Option.toList_some, flatT_one]
theorem flat_le {gs : List (Value × List Nat)} (h : ∀ p ∈ gs, goodP p = true) (j : Nat) : (flatT (gs.take j)).length ≤ gs.length * 122 := by
  have h1 := flatT_length (gs.take j) (fun p hp => h p (List.mem_of_mem_take hp))
  have h2 : (gs.take j).length ≤ gs.length := by rw [List.length_take]; exact Nat.min_le_right _ _
  omega
def BRel (gs : List (Value × List Nat)) (M : Nat) (w5 : World) (g : Nat) (s15 s17 : Value) (wr : World) : Prop :=
  ∃ j : Nat, j ≤ M ∧ g = M - j ∧ s17 = .int .i64 j ∧ Below w5.heap.size w5 wr ∧ Own wr w5.heap.size s15 (flatT (gs.take j))
def CRel (M : Nat) (w7 : World) (g : Nat) (s24 : Value) (wr : World) : Prop := ∃ j : Nat, j ≤ M ∧ g = M - j ∧ s24 = .int .i64 j ∧ Below w7.heap.size w7 wr

theorem num_most {y most : Nat} (hy : y < 18446744073709551616) (hm : y ≤ most) (r : List Nat) : numT (enc y ++ r) 0 most = (y, r, 0) := by
  unfold numT
  rw [if_neg (by simp), lead_read hy]
  have := enc_pos y
  rw [if_neg (by show ¬ (enc y).length = 0; omega), if_neg (by show ¬ most < y; omega)]
  simp
theorem encs_two (t x : Nat) : encs [t, x] = enc t ++ enc x := by rw [encs_cons, encs_cons, encs_nil, List.append_nil]
/-- The look-up of an id. -/
theorem Kp.look {w : World} {mb cnt i : Nat} {D : DataW Unit} {s : Ts Int} (h : Kp w mb cnt D s) {t x : Nat} (ht : t = i + 1) (h64 : t ≤ 64) (hi : i < s.m) (hu : s.use i = true) (hx : s.x i = (x : Int)) :
    (Instr.lookup 48 (.map (some mb)) (.int .i64 t) true).run Try.prog w = .ok (.tuple #[.int .u64 x, .bool true]) w := by
  subst ht
  obtain ⟨v, ps, hrun, hv⟩ := h.own.look_ok keyedInt Try.underlying48 (zeroWord w) (plainElem_int (H := Unit) Try.underlying47 (by decide)) (key_int ((i + 1 : Nat) : Int) (by omega) (by omega))
  rw [h.val i hi hu, hx] at hv
  obtain ⟨c, rfl, hc, _⟩ := plainElem_int_inv Try.underlying47 hv
  have hc1 := congrArg Prod.fst hc
  have hc2 : ((x : Nat) : Int) = c := by
    have : (DataW.lit (Lit.int .u64 (x : Int)) : DataW Unit) = .lit (.int .u64 c) := hc1
    injection this with this
    injection this
  have hh : Maps.has D (.int .i64 ((i + 1 : Nat) : Int)) = true := by rw [h.has]; exact inU_iff.2 ⟨i, rfl, hi, hu⟩
  rw [hrun, hh, hc2]
theorem Kp.len {w : World} {mb cnt : Nat} {D : DataW Unit} {s : Ts Int} (h : Kp w mb cnt D s) (ty : TypeId) : (Builtin.len_ #[48] ty #[.map (some mb)]).run Try.prog w = .ok (.int .i64 (cntU s.use s.m)) w := by
  rw [h.own.len Try.underlying48 ty, h.sz]
theorem wf_word {y : Nat} (h : y < 18446744073709551616) : (Lit.int .u64 (y : Int)).wf = true := by
  have e1 : IntKind.u64.min = 0 := by decide +kernel
  have e2 : IntKind.u64.max = 18446744073709551615 := by decide +kernel
  simp [Lit.wf, e1, e2]
  omega
end Go.Proofs.Ytlnheknhdabhdaa
