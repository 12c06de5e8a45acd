/-
  Those who kept an id and its generation: what each call leaves of it.
  Conditions: none.
-/
import Derived.Test.YtgpbgakijjdkoaaPlay
set_option linter.unusedVariables false
namespace Go.Proofs.Ytgpbgakijjdkoaa
open Go.RowKit TI

/-- Two rows of ints of the call's own, beside a table. -/
structure Two (w : World) (tb : Nat) (sv fv : Value) (B : Nat) (v7 v8 : Value) (c : Nat) (f7 f8 : Nat → Nat) : Prop where
  a : LineAt w v7 c f7
  b : LineAt w v8 c f8
  na : ∀ k, v7.ownBlock = some k → B ≤ k ∧ ¬ Foot tb sv fv k
  nb : ∀ k, v8.ownBlock = some k → B ≤ k ∧ ¬ Foot tb sv fv k
  nab : ∀ k, v7.ownBlock = some k → v8.ownBlock ≠ some k
theorem Two.below {w w' : World} {tb : Nat} {sv fv : Value} {B : Nat} {v7 v8 : Value} {c : Nat} {f7 f8 : Nat → Nat} (h : Two w tb sv fv B v7 v8 c f7 f8) (hb : Below w.heap.size w w') : Two w' tb sv fv B v7 v8 c f7 f8 :=
  ⟨h.a.keep fun k hk => hb.block k (h.a.lt hk), h.b.keep fun k hk => hb.block k (h.b.lt hk), h.na, h.nb, h.nab⟩
theorem Two.mut {w w' : World} {tb : Nat} {sv fv sv' fv' : Value} {B : Nat} {v7 v8 : Value} {c : Nat} {f7 f8 : Nat → Nat} (h : Two w tb sv fv B v7 v8 c f7 f8) (ha : Apart (Foot tb sv fv) w w') (g1 : Grew w sv sv') (g2 : Grew w fv fv') : Two w' tb sv' fv' B v7 v8 c f7 f8 :=
  ⟨h.a.keep fun k hk => ha.block k (h.a.lt hk) (h.na k hk).2, h.b.keep fun k hk => ha.block k (h.b.lt hk) (h.nb k hk).2,
    fun k hk => ⟨(h.na k hk).1, fun hf => (h.na k hk).2 (foot_grew g1 g2 (h.a.lt hk) hf)⟩, fun k hk => ⟨(h.nb k hk).1, fun hf => (h.nb k hk).2 (foot_grew g1 g2 (h.b.lt hk) hf)⟩, h.nab⟩

theorem kept_get {s : Ts Int} {c : Nat} {ids gens : Nat → Nat} (h : Kept s c ids gens) {j : Nat} (hj : j < c) : getV s (ids j : Int) (gens j : Int) = .tuple #[.int .i64 j, .bool true] ∨ getV s (ids j : Int) (gens j : Int) = getNone := by
  unfold getV
  split
  · rename_i hc
    obtain ⟨h1, h2⟩ := hc
    rw [Int.toNat_natCast] at h2 ⊢
    left
    rw [(h.is j hj (by omega)).2]
  · right; rfl

/-- What Take makes of those who kept their ids. -/
theorem take_mix {s : Ts Int} {c k : Nat} {ids gens : Nat → Nat} (o : Okay s) (hk : Kept s c ids gens) (hg : ∀ i, s.gen i ≤ k) :
    (cntU s.use s.m = s.n ∧ ∀ w tb sv fv, TabAt w tb sv fv s → Calls Try.prog 19 #[.pointer (some ⟨tb, 0, none⟩), .int .i64 c] w (RetB (.tuple #[.int .i64 0, .int .i64 0, .int .i64 13]) w)) ∨
    ∃ (s' : Ts Int) (id g : Nat), Okay s' ∧ Kept s' (c + 1) (upd ids c id) (upd gens c g) ∧ s'.n = s.n ∧ (∀ i, s'.gen i ≤ k + 1) ∧ cntU s.use s.m < s.n ∧
      ∀ w tb sv fv, TabAt w tb sv fv s → Calls Try.prog 19 #[.pointer (some ⟨tb, 0, none⟩), .int .i64 c] w (MutPost w tb sv fv (.tuple #[.int .i64 id, .int .i64 g, .int .i64 0]) s') := by
  have hcnt := o.cnt
  have hmn := o.mn
  by_cases h0 : 0 < s.k
  · right
    exact ⟨takeOld s c, s.fr (s.k - 1), s.gen (s.fr (s.k - 1) - 1), o.old _ h0, hk.old o h0, rfl, fun i => Nat.le_succ_of_le (hg i), by omega, fun w tb sv fv h => take_old w tb sv fv s c h o h0⟩
  · by_cases hm : s.m < s.n
    · right
      refine ⟨takeNew s c, s.m + 1, 1, o.new _ (by omega) hm, hk.fresh, rfl, fun i => ?_, by omega, fun w tb sv fv h => take_new w tb sv fv s c h o (by omega) hm⟩
      show upd s.gen s.m 1 i ≤ k + 1
      unfold upd
      split
      · omega
      · exact Nat.le_succ_of_le (hg i)
    · left
      exact ⟨by omega, fun w tb sv fv h => take_full w tb sv fv s c h o.n0 (by omega) (by omega)⟩

/-- What Drop makes of them. -/
theorem drop_mix {s : Ts Int} {c k : Nat} {ids gens : Nat → Nat} (o : Okay s) (hk : Kept s c ids gens) (hg : ∀ i, s.gen i ≤ k) (hk1 : k ≤ 1000) (q g : Int) :
    (∀ w tb sv fv, TabAt w tb sv fv s → Calls Try.prog 18 #[.pointer (some ⟨tb, 0, none⟩), .int .i64 q, .int .i64 g] w (Ret (.int .i64 10) w)) ∨
    ∃ s' : Ts Int, Okay s' ∧ Kept s' c ids gens ∧ s'.n = s.n ∧ (∀ i, s'.gen i ≤ k + 1) ∧
      ∀ w tb sv fv, TabAt w tb sv fv s → Calls Try.prog 18 #[.pointer (some ⟨tb, 0, none⟩), .int .i64 q, .int .i64 g] w (MutPost w tb sv fv (.int .i64 0) s') := by
  have hmn := o.mn
  have hn1 := o.n1
  have hcnt := o.cnt
  by_cases hc : inU s q = true ∧ (s.gen (q.toNat - 1) : Int) = g
  · right
    obtain ⟨hu, hgg⟩ := hc
    obtain ⟨i, hid, hi, hui⟩ := inU_some hu
    have hgi : q.toNat - 1 = i := by omega
    rw [hgi] at hgg
    refine ⟨dropT s i 0, o.drop 0 hi hui, hk.drop i, rfl, fun j => ?_, fun w tb sv fv h => ?_⟩
    · show upd s.gen i (s.gen i + 1) j ≤ k + 1
      have h1 := hg i
      have h2 := hg j
      unfold upd
      split <;> omega
    · have hdo := drop_ok w tb sv fv s i h (by omega) o.n0 (by omega) hi hui (Int.lt_of_le_of_lt (Int.ofNat_le.2 (show s.gen i ≤ 100000 by have := hg i; omega)) (by decide))
      rw [← hid, hgg] at hdo
      exact hdo
  · exact .inl fun w tb sv fv h => drop_none w tb sv fv s q g h (by omega) o.n0 hc

/-- A row of the call's own has grown by one. -/
theorem LineAt.more {W W' : World} {v v' : Value} {m x : Nat} {L : Nat → Nat} (h : LineAt W v m L) (hown : W'.ownsRow 0 3 1 v' (m + 1) (lineCells L m ++ [.int .i64 x])) : LineAt W' v' (m + 1) (upd L m x) := LineAt.of_own hown

def MixRel (n B : Nat) (W0 : World) (tb N : Nat) (g : Nat) (s7 s8 s9 : Value) (wr : World) : Prop :=
  ∃ (k c : Nat) (sv fv : Value) (s : Ts Int) (ids gens : Nat → Nat), k ≤ N ∧ g = N - k ∧ s9 = .int .i64 k ∧ Held B W0 wr tb sv fv s ∧ s.n = n ∧ c ≤ k ∧ Kept s c ids gens ∧ (∀ i, s.gen i ≤ k) ∧ Two wr tb sv fv B s7 s8 c ids gens
end Go.Proofs.Ytgpbgakijjdkoaa
