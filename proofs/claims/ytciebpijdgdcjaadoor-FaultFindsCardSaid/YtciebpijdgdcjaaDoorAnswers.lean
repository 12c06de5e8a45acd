/-
  What both sides answer about a chain, by the links alone: Code, Text, Has, Links.
  Conditions: start-up's two variables are as laid; at most 40 links, each right.
-/
import Derived.Test.YtciebpijdgdcjaaDoorBehind
namespace Go.Proofs.YtciebpijdgdcjaaDoor
open Go.RowKit Go.Extern.Stop Go.Stop Go.Extern

def codeO : Option (List Key) → Int
  | none => 0
  | some ks => headCode ks
def keyItem (k : Key) : Item := ⟨0, k.1, k.2.1, k.2.2⟩
def textO : Option (List Key) → List UInt8
  | none => []
  | some ks => textOf (ks.map keyItem)
def hasO (c : Int) : Option (List Key) → Bool
  | none => c == 0
  | some ks => ks.any (fun k => c == k.1)
def lenO : Option (List Key) → Nat
  | none => 0
  | some ks => ks.length

theorem textOf_keys (is : List Item) : textOf is = textOf ((is.map Item.key).map keyItem) := by
  have e : ∀ l : List Item, l.map linkText = ((l.map Item.key).map keyItem).map linkText := by
    intro l
    rw [List.map_map, List.map_map]
    rfl
  cases is with
  | nil => rfl
  | cons i is =>
    show Lib.join ((i :: is).map linkText) [58, 32] = Lib.join (((keyItem i.key) :: (is.map Item.key).map keyItem).map linkText) [58, 32]
    rw [e (i :: is)]
    rfl

section
variable {base : Nat} {w : World} {o : Option (List Key)} {E : Value} {s : Bool} {lv : Value} {is js : List Item}

theorem Good.e_len (h : Good base w o E s lv is js 40) : is.length = lenO o := by
  have := h.eres
  cases o with
  | none => rw [this.2]; rfl
  | some ks => rw [← List.length_map (f := Item.key), this.2]; rfl
theorem Good.r_len (h : Good base w o E s lv is js 40) : js.length = lenO o := by
  have := h.rres
  cases o with
  | none => rw [this.2]; rfl
  | some ks => rw [← List.length_map (f := Item.key), this.2]; rfl
theorem Good.small (h : Good base w o E s lv is js 40) : lenO o ≤ 40 := by
  have := h.len
  cases o with
  | none => exact Nat.zero_le _
  | some ks => exact this ks rfl

theorem item_ok {l : List Item} {ks : List Key} (e : l.map Item.key = ks) (h : ∀ x ∈ ks, keyOk x) : ∀ i ∈ l, i.ok := by
  intro i hi
  have hx : i.key ∈ ks := by rw [← e]; exact List.mem_map_of_mem hi
  obtain ⟨h1, h2, h3, _⟩ := h _ hx
  exact ⟨h1, h2, Nat.le_trans h3 (by decide)⟩

theorem hasCode_any (c : Int) (l : List Item) : hasCode c l = (l.map Item.key).any (fun k => c == k.1) := by
  simp [hasCode, List.any_map, Item.key, Function.comp_def]

theorem any_zero {ks : List Key} (h : ∀ x ∈ ks, keyOk x) : (ks.any fun k => (0 : Int) == k.1) = false := by
  rw [List.any_eq_false]
  intro x hx e
  have := (h x hx).2.2.2
  have e' : (0 : Int) = x.1 := by simpa using e
  rw [← e'] at this
  cases this

theorem e_code (h : Good base w o E s lv is js 40) (he : Env w) : Calls Tryd.prog 9 #[E] w fun e w' => e = .returned (.int .i64 (codeO o)) ∧ Below w.heap.size w w' := by
  refine (code_any E is w h.chain he.e).mono fun e w' hh => ?_
  obtain ⟨rfl, hb⟩ := hh
  refine ⟨?_, hb⟩
  have hr := h.eres
  cases o with
  | none => obtain ⟨rfl, rfl⟩ := hr; rfl
  | some ks => obtain ⟨hE, rfl⟩ := hr; rw [codeOf_keys hE]; rfl

theorem r_code (h : Good base w o E s lv is js 40) : Calls Tryd.prog 10 #[.agg #[.bool s, lv]] w fun e w' => e = .returned (.int .i64 (codeO o)) ∧ Below w.heap.size w w' := by
  refine (rcode_any s lv js base w h.row h.nils (by have := h.r_len; have := h.small; omega)).mono fun e w' hh => ?_
  obtain ⟨rfl, hb⟩ := hh
  refine ⟨?_, hb⟩
  have hr := h.rres
  cases o with
  | none => obtain ⟨rfl, rfl⟩ := hr; rfl
  | some ks => obtain ⟨rfl, rfl⟩ := hr; rw [rcodeOf_keys]; rfl

theorem e_text (h : Good base w o E s lv is js 40) (he : Env w) : Calls Tryd.prog 11 #[E] w (TextP (textO o) w) := by
  have hr := h.eres
  have hl := h.e_len
  have hs := h.small
  have hch := h.chain
  cases o with
  | none => obtain ⟨rfl, rfl⟩ := hr; exact text_nil w
  | some ks =>
    obtain ⟨hE, e⟩ := hr
    have et : textO (some ks) = textOf is := by rw [textOf_keys, e]; rfl
    rw [et]
    by_cases hp : 0 < is.length
    · exact text_some E is w hch hE he.e he.t he.z (by omega) hp (item_ok e (h.ok _ rfl))
    · have : is = [] := List.length_eq_zero_iff.1 (by omega)
      subst this
      exact text_alien E w hch hE he.e

theorem r_text (h : Good base w o E s lv is js 40) : Calls Tryd.prog 12 #[.agg #[.bool s, lv]] w (TextP (textO o) w) := by
  have hr := h.rres
  have hok : ∀ i ∈ js, i.ok := by
    cases o with
    | none => rw [hr.2]; intro i hi; cases hi
    | some ks => exact item_ok hr.2 (h.ok _ rfl)
  have et : rtextOf s js = textO o := by
    cases o with
    | none => obtain ⟨rfl, rfl⟩ := hr; rfl
    | some ks => obtain ⟨rfl, rfl⟩ := hr; show textOf js = textOf _; rw [textOf_keys]
  rw [← et]
  exact rtext_any s lv js base w h.row h.nils (by have := h.r_len; have := h.small; omega) hok

theorem e_has (h : Good base w o E s lv is js 40) (he : Env w) (c : Int) : Calls Tryd.prog 14 #[E, .int .i64 c] w (Ans (hasO c o) w) := by
  have hr := h.eres
  have hl := h.e_len
  have hs := h.small
  have hch := h.chain
  by_cases hc : c = 0
  · subst hc
    cases o with
    | none => obtain ⟨rfl, rfl⟩ := hr; exact has_zero_nil w
    | some ks =>
      obtain ⟨T, x, rfl⟩ := hch.iface hr.1
      have e0 : hasO 0 (some ks) = false := any_zero (h.ok _ rfl)
      rw [e0]
      exact has_zero_some T x w
  · have := has_code E is c w hch he.e (by omega) (by simpa using hc)
    have e0 : hasO c o = hasCode c is := by
      rw [hasCode_any]
      cases o with
      | none => obtain ⟨rfl, rfl⟩ := hr; simpa [hasO] using hc
      | some ks => rw [hr.2]; rfl
    rw [e0]
    exact this

theorem r_has (h : Good base w o E s lv is js 40) (c : Int) : Calls Tryd.prog 15 #[.agg #[.bool s, lv], .int .i64 c] w (Ans (hasO c o) w) := by
  have hr := h.rres
  have hl := h.r_len
  have hs := h.small
  by_cases hc : c = 0
  · subst hc
    have e0 : hasO 0 o = !s := by
      cases o with
      | none => rw [hr.1]; rfl
      | some ks => rw [hr.1]; exact any_zero (h.ok _ rfl)
    rw [e0]
    exact rhas_zero s lv h.row.slice w
  · have := rhas_any s lv js base c (by simpa using hc) w h.row h.nils (by omega)
    have e0 : hasO c o = hasCode c js := by
      rw [hasCode_any]
      cases o with
      | none => obtain ⟨rfl, rfl⟩ := hr; simpa [hasO] using hc
      | some ks => rw [hr.2]; rfl
    rw [e0]
    exact this

theorem Good.shape (h : Good base w o E s lv is js 40) : (E = .nilIface ∧ s = false ∧ o = none) ∨ ∃ T x ks, E = .iface T x ∧ s = true ∧ o = some ks := by
  have hr := h.eres
  have hr2 := h.rres
  cases o with
  | none => exact .inl ⟨hr.1, hr2.1, rfl⟩
  | some ks =>
    obtain ⟨T, x, rfl⟩ := h.chain.iface hr.1
    exact .inr ⟨T, x, ks, rfl, hr2.1, rfl⟩
end
end Go.Proofs.YtciebpijdgdcjaaDoor
