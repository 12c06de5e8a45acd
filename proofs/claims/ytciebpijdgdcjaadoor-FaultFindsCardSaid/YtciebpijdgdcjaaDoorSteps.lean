/-
  What each step makes of an error and of the reference's chain, by the links alone: the contracts of New, Wrap, Turn on both sides.
  Conditions: the variable errors.errorType holds its handle; at most 1000000 links; no link has the code 0.
-/
import Derived.Test.YtciebpijdgdcjaaDoorRefWrap
import Derived.Test.YtciebpijdgdcjaaDoorRefText
import Derived.Test.YtciebpijdgdcjaaDoorInner
namespace Go.Proofs.YtciebpijdgdcjaaDoor
open Go.RowKit Go.Extern.Stop Go.Stop Go.Extern

abbrev Key := Int × ByteArray × Int

def headCode : List Key → Int
  | [] => 6
  | k :: _ => k.1

def newO (c : Int) (part : ByteArray) (pos : Int) : Option (List Key) := if c = 0 then none else some [(c, part, pos)]
def wrapO (part : ByteArray) (pos : Int) (o : Option (List Key)) : Option (List Key) := o.map fun ks => (headCode ks, part, pos) :: ks
def turnO (c : Int) (part : ByteArray) (pos : Int) (o : Option (List Key)) : Option (List Key) := if c = 0 then wrapO part pos o else o.map fun ks => (c, part, pos) :: ks

def ERes (o : Option (List Key)) (E : Value) (is : List Item) : Prop := match o with
  | none => E = .nilIface ∧ is = []
  | some ks => E ≠ .nilIface ∧ is.map Item.key = ks
def RRes (o : Option (List Key)) (s : Bool) (js : List Item) : Prop := match o with
  | none => s = false ∧ js = []
  | some ks => s = true ∧ js.map Item.key = ks

def EPost (o : Option (List Key)) (w : World) (e : Ending) (w' : World) : Prop :=
  ∃ E is, e = .returned E ∧ Below w.heap.size w w' ∧ Chain w'.heap.size w' E is ∧ ERes o E is
def RPost (base : Nat) (o : Option (List Key)) (w : World) (e : Ending) (w' : World) : Prop :=
  ∃ s a n c js, e = .returned (.agg #[.bool s, .slice a n c]) ∧ Below w.heap.size w w' ∧ RAt base w' (.slice a n c) js ∧ (js = [] → Value.slice a n c = .slice none 0 0) ∧ RRes o s js

theorem key_mk (b : Nat) (c : Int) (part : ByteArray) (pos : Int) : Item.key ⟨b, c, part, pos⟩ = (c, part, pos) := rfl

theorem codeOf_keys {E : Value} (hE : E ≠ .nilIface) {is : List Item} : codeOf E is = headCode (is.map Item.key) := by
  cases is with
  | nil => rw [codeOf_none hE]; rfl
  | cons i is => rw [codeOf_some hE]; rfl
theorem rcodeOf_keys {js : List Item} : rcodeOf true js = headCode (js.map Item.key) := by
  cases js <;> rfl

theorem epost_made {c : Int} {part : ByteArray} {pos : Int} {is : List Item} {w w' : World} {e : Ending} (h : MadePost c part pos is w e w') : EPost (some ((c, part, pos) :: is.map Item.key)) w e w' := by
  obtain ⟨b, rfl, hb, hch⟩ := h
  exact ⟨_, _, rfl, hb, hch, by simp, rfl⟩

theorem e_new (c : Int) (part : ByteArray) (pos : Int) (w : World) :
    Calls Tryd.prog 16 #[.int .i64 c, .string part, .int .i64 pos] w (EPost (newO c part pos) w) := by
  by_cases hc : c = 0
  · subst hc
    refine (new_zero part pos w).mono fun e w' h => ?_
    obtain ⟨rfl, rfl⟩ := h
    exact ⟨_, [], rfl, Below.refl _ _, .nil, rfl, rfl⟩
  · refine (new_some c part pos w (by simpa using hc)).mono fun e w' h => ?_
    have := epost_made h
    simpa [newO, hc] using this

theorem e_wrap (o : Option (List Key)) (E : Value) (is : List Item) (part : ByteArray) (pos : Int) (w : World) (hch : Chain w.heap.size w E is) (hr : ERes o E is) (hg : EType w) :
    Calls Tryd.prog 18 #[E, .string part, .int .i64 pos] w (EPost (wrapO part pos o) w) := by
  cases o with
  | none =>
    obtain ⟨rfl, rfl⟩ := hr
    refine (wrap_nil part pos w).mono fun e w' h => ?_
    obtain ⟨rfl, rfl⟩ := h
    exact ⟨_, [], rfl, Below.refl _ _, .nil, rfl, rfl⟩
  | some ks =>
    obtain ⟨hE, rfl⟩ := hr
    refine (wrap_some E is part pos w hch hE hg).mono fun e w' h => ?_
    have := epost_made h
    rw [codeOf_keys hE] at this
    exact this

theorem e_turn (c : Int) (o : Option (List Key)) (E : Value) (is : List Item) (part : ByteArray) (pos : Int) (w : World) (hch : Chain w.heap.size w E is) (hr : ERes o E is) (hg : EType w) :
    Calls Tryd.prog 19 #[E, .int .i64 c, .string part, .int .i64 pos] w (EPost (turnO c part pos o) w) := by
  cases o with
  | none =>
    obtain ⟨rfl, rfl⟩ := hr
    refine (turn_nil c part pos w).mono fun e w' h => ?_
    obtain ⟨rfl, rfl⟩ := h
    have e0 : turnO c part pos none = none := by unfold turnO wrapO; split <;> rfl
    rw [e0]
    exact ⟨_, [], rfl, Below.refl _ _, .nil, rfl, rfl⟩
  | some ks =>
    obtain ⟨hE, rfl⟩ := hr
    by_cases hc : c = 0
    · subst hc
      refine (turn_zero E is part pos w hch hE hg).mono fun e w' h => ?_
      have := epost_made h
      rw [codeOf_keys hE] at this
      exact this
    · refine (turn_some c E is part pos w hch hE (by simpa using hc)).mono fun e w' h => ?_
      have := epost_made h
      unfold turnO
      rw [if_neg hc]
      exact this

theorem rpost_made {base : Nat} {c : Int} {part : ByteArray} {pos : Int} {js : List Item} {w w' : World} {e : Ending} (h : RMade base c part pos js w e w') : RPost base (some ((c, part, pos) :: js.map Item.key)) w e w' := by
  obtain ⟨g, cap, b, rfl, hb, hr⟩ := h
  exact ⟨true, _, _, _, ⟨b, c, part, pos⟩ :: js, rfl, hb, hr, by simp, rfl, rfl⟩

theorem rat_nil (base : Nat) (w : World) : RAt base w (.slice none 0 0) [] := ⟨rfl, .inl ⟨rfl, rfl⟩⟩

theorem r_new (base : Nat) (c : Int) (part : ByteArray) (pos : Int) (w : World) (hb : base ≤ w.heap.size) :
    Calls Tryd.prog 24 #[.int .i64 c, .string part, .int .i64 pos] w (RPost base (newO c part pos) w) := by
  by_cases hc : c = 0
  · subst hc
    refine (rnew_zero part pos w).mono fun e w' h => ?_
    obtain ⟨rfl, hb'⟩ := h
    exact ⟨false, _, _, _, [], rfl, hb', rat_nil _ _, fun _ => rfl, rfl, rfl⟩
  · refine (rnew_some base c part pos w hb (by simpa using hc)).mono fun e w' h => ?_
    have := rpost_made h
    simpa [newO, hc] using this

theorem r_wrap (base : Nat) (o : Option (List Key)) (s : Bool) (a : Option Addr) (n cp : Nat) (js : List Item) (part : ByteArray) (pos : Int) (w : World) (h : RAt base w (.slice a n cp) js) (hnil : js = [] → Value.slice a n cp = .slice none 0 0) (hr : RRes o s js) (hn : js.length ≤ 1048576) (hb : base ≤ w.heap.size)
    (hc : ∀ ks, o = some ks → (headCode ks == 0) = false) :
    Calls Tryd.prog 25 #[.agg #[.bool s, .slice a n cp], .string part, .int .i64 pos] w (RPost base (wrapO part pos o) w) := by
  cases o with
  | none =>
    obtain ⟨rfl, rfl⟩ := hr
    refine (rwrap_none base _ [] part pos w h).mono fun e w' hh => ?_
    obtain ⟨rfl, hb'⟩ := hh
    exact ⟨false, _, _, _, [], rfl, hb', h.kept hb', hnil, rfl, rfl⟩
  | some ks =>
    obtain ⟨rfl, rfl⟩ := hr
    refine (rwrap_some base _ js part pos w h hnil hn hb (by rw [rcodeOf_keys]; exact hc _ rfl)).mono fun e w' hh => ?_
    have := rpost_made hh
    rw [rcodeOf_keys] at this
    exact this

theorem r_turn (base : Nat) (c : Int) (o : Option (List Key)) (s : Bool) (a : Option Addr) (n cp : Nat) (js : List Item) (part : ByteArray) (pos : Int) (w : World) (h : RAt base w (.slice a n cp) js) (hnil : js = [] → Value.slice a n cp = .slice none 0 0) (hr : RRes o s js) (hn : js.length ≤ 1048576) (hb : base ≤ w.heap.size)
    (hc : ∀ ks, o = some ks → (headCode ks == 0) = false) :
    Calls Tryd.prog 26 #[.agg #[.bool s, .slice a n cp], .int .i64 c, .string part, .int .i64 pos] w (RPost base (turnO c part pos o) w) := by
  cases o with
  | none =>
    obtain ⟨rfl, rfl⟩ := hr
    refine (rturn_none _ ⟨a, n, cp, rfl⟩ c part pos w).mono fun e w' hh => ?_
    obtain ⟨rfl, hb'⟩ := hh
    have e0 : turnO c part pos none = none := by unfold turnO wrapO; split <;> rfl
    rw [e0]
    exact ⟨false, _, _, _, [], rfl, hb', h.kept hb', hnil, rfl, rfl⟩
  | some ks =>
    obtain ⟨rfl, rfl⟩ := hr
    by_cases hcc : c = 0
    · subst hcc
      refine (rturn_zero base _ js part pos w h hnil hn hb (by rw [rcodeOf_keys]; exact hc _ rfl)).mono fun e w' hh => ?_
      have := rpost_made hh
      rw [rcodeOf_keys] at this
      exact this
    · refine (rturn_some base _ js c part pos w h hnil hn hb (by simpa using hcc)).mono fun e w' hh => ?_
      have := rpost_made hh
      unfold turnO
      rw [if_neg hcc]
      exact this
end Go.Proofs.YtciebpijdgdcjaaDoor
