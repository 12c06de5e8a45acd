/-
  A map of the call's own that counts picks.
  Conditions: those of each law.
-/
import Derived.Test.YtanchjcifhbllaaOn
import Derived.Maps.Own
import Derived.Maps.OwnOps
import Derived.Maps.OwnSet
import Derived.Maps.Views
set_option linter.unusedVariables false
namespace Go.Proofs.Ytanchjcifhbllaa
open Go.RowKit Go.Maps

theorem keyedInt : Keyed Try.prog 3 := int_keyed Try.underlying3
theorem zeroInt (w : World) : (zeroValue 3).run Try.prog w = .ok (.int .i64 0) w := by kernel_rfl
theorem key_int (q : Int) (h0 : -9223372036854775808 ≤ q) (h1 : q ≤ 9223372036854775807) : keyOf Try.prog 3 (.int .i64 q) = some (.int .i64 q) := keyOf_int_mk Try.underlying3 (WalkArith.wf_i64 ⟨h0, h1⟩)
theorem lit_ne {a b : Int} (h : a ≠ b) : (Lit.int .i64 a) ≠ (Lit.int .i64 b) := by intro e; injection e with _ e; exact h e
theorem keyLit_int (q : Int) : WideAt.IsKeyLit (.int .i64 q) := by first | exact trivial | simp [WideAt.IsKeyLit] | exact ⟨_, _, rfl⟩
theorem own_keepM {w w' : World} {R : Value → Option (DataW Unit × List MemPlace)} {b n : Nat} {D : DataW Unit} (h : w.ownsMap Try.prog 3 R b n D) (e : w'.heap[b]? = w.heap[b]?) : w'.ownsMap Try.prog 3 R b n D := by
  obtain ⟨es, clock, hb, r⟩ := h
  exact ⟨es, clock, e.trans hb, r⟩
/-- Block mb is a map of at most cnt entries that has f of every number. -/
def GotAt (w : World) (mb cnt : Nat) (f : Int → Nat) (D : DataW Unit) : Prop :=
  w.ownsMap Try.prog 3 (plainElem Try.prog 3) mb cnt D ∧ ∀ q : Int, D.atKey (.int .i64 q) (.lit (.int .i64 0)) = .lit (.int .i64 (f q))
theorem GotAt.keep {w w' : World} {mb cnt : Nat} {f : Int → Nat} {D : DataW Unit} (h : GotAt w mb cnt f D) (e : w'.heap[mb]? = w.heap[mb]?) : GotAt w' mb cnt f D := ⟨own_keepM h.1 e, h.2⟩
theorem got_new (w : World) : GotAt (w.alloc (.map #[] 0)) w.heap.size 0 (fun _ => 0) (.map []) := ⟨World.ownsMap_made w _ _ _, fun q => rfl⟩
theorem GotAt.look {w : World} {mb cnt : Nat} {f : Int → Nat} {D : DataW Unit} (h : GotAt w mb cnt f D) (q : Int) (h0 : 0 ≤ q) (h1 : q ≤ 1000) : (Instr.lookup 52 (.map (some mb)) (.int .i64 q) false).run Try.prog w = .ok (.int .i64 (f q)) w := by
  obtain ⟨c, hrun, hat, _⟩ := h.1.lookup_int keyedInt Try.underlying52 Try.underlying3 (zeroInt w) (key_int q (by omega) (by omega))
  rw [h.2 q] at hat
  have hc : c = (f q : Int) := by
    have e := DataW.lit.inj hat
    exact (Lit.int.inj e).2.symm
  rw [hc] at hrun
  exact hrun
def bump (f : Int → Nat) (q : Int) : Int → Nat := fun x => if x = q then f q + 1 else f x
theorem GotAt.bump {w w' : World} {mb cnt : Nat} {f : Int → Nat} {D : DataW Unit} {q : Int} (h : GotAt w mb cnt f D) (ho : w'.ownsMap Try.prog 3 (plainElem Try.prog 3) mb (cnt + 1) (D.put (.int .i64 q) (.lit (.int .i64 ((f q : Int) + 1))))) :
    GotAt w' mb (cnt + 1) (Go.Proofs.Ytanchjcifhbllaa.bump f q) (D.put (.int .i64 q) (.lit (.int .i64 ((f q : Int) + 1)))) := by
  refine ⟨ho, fun x => ?_⟩
  unfold Go.Proofs.Ytanchjcifhbllaa.bump
  by_cases e : x = q
  · subst e
    rw [if_pos rfl, atKey_put_same h.1.isMap (keyLit_int _)]
    rfl
  · rw [if_neg e, atKey_put_other (lit_ne e)]
    exact h.2 x
theorem wf_small {n : Int} (h0 : 0 ≤ n) (h1 : n ≤ 100000) : (Lit.int .i64 n).wf = true := WalkArith.wf_i64 ⟨by omega, by omega⟩

/-- What the map has is what each one got. -/
def Gots (l0 l : List Mb) (f : Int → Nat) : Prop := ∀ (k : Nat) (a b : Mb), l0[k]? = some a → l[k]? = some b → f (a.id : Int) = b.n - a.n
theorem Gots.start (l : List Mb) : Gots l l (fun _ => 0) := fun k a b ha hb => by
  rw [ha] at hb
  injection hb with hb
  subst hb
  show 0 = _
  omega
theorem Gots.pick {l0 l : List Mb} {f : Int → Nat} (h : Gots l0 l f) (hs : Since l0 l) (hsrt : Sorted l) {k : Nat} {m : Mb} (hk : l[k]? = some m) : Gots l0 (l.set k { m with n := m.n + 1 }) (bump f (m.id : Int)) := by
  intro j a b ha hb
  obtain ⟨b0, hb0, hl0⟩ := hs.some_ ha
  unfold bump
  by_cases e : j = k
  · subst e
    rw [hk] at hb0
    injection hb0 with hb0
    subst hb0
    rw [List.getElem?_set_self (List.getElem?_eq_some_iff.1 hk).1] at hb
    injection hb with hb
    subst hb
    rw [if_pos (by rw [hl0.id])]
    have := h j a m ha hk
    rw [← hl0.id] at this
    rw [this]
    have := hl0.n
    show m.n - a.n + 1 = m.n + 1 - a.n
    omega
  · rw [List.getElem?_set_ne (fun h => e h.symm)] at hb
    rw [hb0] at hb
    injection hb with hb
    subst hb
    rw [if_neg (fun he => e (sorted_id hsrt hb0 hk (by rw [hl0.id]; omega)))]
    exact h j a b0 ha hb0
theorem Gots.none_ {l0 l : List Mb} {f : Int → Nat} (h : Gots l0 l f) (hid : ∀ m ∈ l0, 1 ≤ m.id) : Gots l0 l (bump f 0) := fun k a b ha hb => by
  unfold bump
  rw [if_neg (by have := hid a (List.mem_of_getElem? ha); omega)]
  exact h k a b ha hb
theorem bump_le {f : Int → Nat} {t : Nat} (h : ∀ x, f x ≤ t) (q : Int) : ∀ x, bump f q x ≤ t + 1 := fun x => by
  unfold bump
  split
  · have := h q; omega
  · have := h x; omega
theorem cnt_pos : ∀ {l : List Mb}, 0 < cntOn l → ∃ (k : Nat) (a : Mb), l[k]? = some a ∧ a.on = true
  | [], h => by simp [cntOn] at h
  | x :: l, h => by
    by_cases ho : x.on = true
    · exact ⟨0, x, rfl, ho⟩
    · unfold cntOn at h
      rw [if_neg ho] at h
      obtain ⟨k, a, h1, h2⟩ := cnt_pos (l := l) (by omega)
      exact ⟨k + 1, a, by simpa using h1, h2⟩
theorem Ghost.ids {S P : Rg} (h : Ghost S P) : ∀ m ∈ S.l, 1 ≤ m.id := by
  obtain ⟨K, C, h1, h2, h3⟩ := h
  exact fun m hm => (h2.mem m hm).1
end Go.Proofs.Ytanchjcifhbllaa
