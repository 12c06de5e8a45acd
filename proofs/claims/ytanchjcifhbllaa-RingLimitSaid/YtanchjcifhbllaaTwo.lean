/-
  Two rings beside one another.
  Conditions: those of each law.
-/
import Derived.Test.YtanchjcifhbllaaOn
import Derived.Test.YtanchjcifhbllaaOrders
set_option linter.unusedVariables false
namespace Go.Proofs.Ytanchjcifhbllaa
open Go.RowKit

theorem Aside.flip {w : World} {ra rb : Nat} {mva mvb : Value} {PA : Rg} (ha : RingAt w ra mva PA) (h : Aside (Foot rb mvb) w ra mva) : Aside (Foot ra mva) w rb mvb :=
  fun k hk => ⟨ha.foot hk, fun hf => (h k hf).2 hk⟩
theorem two_mutA {B : Nat} {W w w' : World} {ra rb : Nat} {mva mvb v : Value} {PA PA' PB : Rg} {e : Ending} (ha : Held B W w ra mva PA) (hb : Held B W w rb mvb PB) (hs : Aside (Foot rb mvb) w ra mva) (hm : MutPost w ra mva v PA' e w') (hk : Okay PA') :
    ∃ mva', e = .returned v ∧ Held B W w' ra mva' PA' ∧ Held B W w' rb mvb PB ∧ Aside (Foot rb mvb) w' ra mva' := by
  obtain ⟨mva', he, h1, h2, h3⟩ := ha.mut hm hk
  obtain ⟨h4, h5⟩ := hs.mut h2 h3
  exact ⟨mva', he, h1, hb.keep h1.bel h5, h4⟩
theorem two_mutB {B : Nat} {W w w' : World} {ra rb : Nat} {mva mvb v : Value} {PA PB PB' : Rg} {e : Ending} (ha : Held B W w ra mva PA) (hb : Held B W w rb mvb PB) (hs : Aside (Foot rb mvb) w ra mva) (hm : MutPost w rb mvb v PB' e w') (hk : Okay PB') :
    ∃ mvb', e = .returned v ∧ Held B W w' ra mva PA ∧ Held B W w' rb mvb' PB' ∧ Aside (Foot rb mvb') w' ra mva := by
  obtain ⟨mvb', he, h1, h2, h3⟩ := two_mutA hb ha (hs.flip ha.lies) hm hk
  exact ⟨mvb', he, h2, h1, Aside.flip h1.lies h3⟩
structure Two (B : Nat) (W w : World) (ra : Nat) (mva : Value) (PA : Rg) (rb : Nat) (mvb : Value) (PB S : Rg) : Prop where
  a : Held B W w ra mva PA
  b : Held B W w rb mvb PB
  s : Aside (Foot rb mvb) w ra mva
  ga : Ghost S PA
  gb : Ghost S PB
theorem Two.below {B : Nat} {W w w' : World} {ra rb : Nat} {mva mvb : Value} {PA PB S : Rg} (h : Two B W w ra mva PA rb mvb PB S) (hb : Below w.heap.size w w') : Two B W w' ra mva PA rb mvb PB S :=
  ⟨h.a.below hb, h.b.below hb, h.s.more hb.size, h.ga, h.gb⟩
theorem Ghost.callV {S P : Rg} (h : Ghost S P) (kind id w : Int) : Go.Proofs.Ytanchjcifhbllaa.callV P kind id w = Go.Proofs.Ytanchjcifhbllaa.callV S kind id w := by
  obtain ⟨K, C, h1, h2, _⟩ := h
  unfold Go.Proofs.Ytanchjcifhbllaa.callV
  rw [(h1.call h2 kind id w).1]
theorem Ghost.leadO {S P : Rg} (h : Ghost S P) (id : Int) : Go.Proofs.Ytanchjcifhbllaa.leadO P id = Go.Proofs.Ytanchjcifhbllaa.leadO S id := by
  obtain ⟨K, C, h1, h2, _⟩ := h
  unfold Go.Proofs.Ytanchjcifhbllaa.leadO
  rw [h1.l, findK_shift]
  cases hq : findK S.l id with
  | none => rfl
  | some k =>
    obtain ⟨m, hm, _⟩ := findK_some hq
    simp only [memK_at hm, h1.mem hm]
    unfold leadV
    show (if m.on = true then _ else _) = (if m.on = true then _ else _)
    by_cases ho : m.on = true
    · obtain ⟨a, b⟩ := h1.lead h2 (List.mem_of_getElem? hm) ho
      rw [if_pos ho, if_pos ho, a, b]
    · rw [if_neg ho, if_neg ho]
theorem leadO_form (S : Rg) (id : Int) : ∃ (x y : Nat) (bo : Bool), leadO S id = .tuple #[.int .u64 x, .int .u64 y, .bool bo] := by
  unfold leadO
  cases findK S.l id with
  | none => exact ⟨0, 0, false, rfl⟩
  | some k =>
    simp only
    unfold leadV
    split
    · exact ⟨_, _, true, rfl⟩
    · exact ⟨0, 0, false, rfl⟩
theorem pickV_form (S : Rg) : (pickV S = .tuple #[.int .i64 0, .bool false]) ∨ ∃ x : Nat, pickV S = .tuple #[.int .i64 x, .bool true] := by
  unfold pickV
  cases best S.l with
  | none => exact .inl rfl
  | some x => exact .inr ⟨x.2.id, rfl⟩
theorem new_big (W : World) : Calls Try.prog 9 #[.int .i64 1099511627776] W (NewPost W 1099511627776) := new_ok 1099511627776 (by decide) (by decide) W
theorem ghost_lim (L : Nat) (h1 : 2048 ≤ L) (h2 : L ≤ 1099511627776) (M : Nat) (h3 : 2048 ≤ M) (h4 : M ≤ 1099511627776) : Ghost (newR M) (newR L) :=
  ⟨0, M, Sim.zero (newR M) L, (okay_new h3 h4).fit, fun m hm => by cases hm⟩
theorem two_new {W w1 w2 : World} {e1 e2 : Ending} {L : Nat} (h1 : NewPost W L e1 w1) (hL : 2048 ≤ L) (hL2 : L ≤ 1099511627776) (h2 : NewPost w1 1099511627776 e2 w2) :
    Two W.heap.size W w2 W.heap.size (.slice none 0 0) (newR L) w1.heap.size (.slice none 0 0) (newR 1099511627776) (newR 1099511627776) := by
  obtain ⟨_, a⟩ := held_new h1 hL hL2
  obtain ⟨_, b⟩ := held_new h2 (by decide) (by decide)
  refine ⟨a.below h2.2.2, ⟨b.lies, b.ok, a.bel.size, fun k hk => (by cases hk), a.bel.trans (b.bel.mono a.bel.size), a.hS⟩, fun k hk => ?_, ghost_lim L hL hL2 _ (by decide) (by decide), ghost_new _ (by decide) (by decide)⟩
  have := b.foot hk
  refine ⟨this.2, fun hf => ?_⟩
  have := (a.foot hf).2
  omega
end Go.Proofs.Ytanchjcifhbllaa
