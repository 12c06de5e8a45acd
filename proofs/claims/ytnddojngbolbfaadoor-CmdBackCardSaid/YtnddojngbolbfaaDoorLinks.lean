/-
  fault.Links: over any error of the program it hands back a new slice of all its links, the outermost first.
  Conditions: the variable errors.errorType holds its handle; at most 1048576 links.
-/
import Derived.Test.YtnddojngbolbfaaDoorMake
import Derived.OwnWalk
import Derived.WalkLawsBesides
namespace Go.Proofs.YtnddojngbolbfaaDoor
open Go.RowKit Go.Extern.Stop Go.Stop Go.Extern

theorem Tryd.infoLink : (Tryd.prog.info? 51).map (fun i => (i.zero, i.size, i.bytes)) = some (some (.agg #[.int .i64 0, .string ⟨#[]⟩, .int .i64 0]), 3, 32) := by kernel_rfl

def linkCells (i : Item) : List Value := [.int .i64 i.code, .string i.part, .int .i64 i.pos]
def linksCells (is : List Item) : List Value := is.flatMap linkCells

theorem linksCells_snoc (is : List Item) (i : Item) : linksCells (is ++ [i]) = linksCells is ++ [.int .i64 i.code, .string i.part, .int .i64 i.pos] := by
  simp [linksCells, linkCells]

theorem Chain.drop {B : Nat} {w : World} : ∀ (done : List Item) {todo : List Item} {v : Value}, Chain B w v (done ++ todo) → ∃ v', Chain B w v' todo := by
  intro done
  induction done with
  | nil => intro todo v c; exact ⟨v, c⟩
  | cons i is ih =>
    intro todo v c
    obtain ⟨_, v', _, c'⟩ := Chain.head c
    exact ih c'

theorem Fbelow_grown {w w' : World} {row : Option Nat} {B : Nat} (hg : w.grownBy w' row) (hB : B ≤ w.heap.size) (hr : ∀ k, row = some k → B ≤ k) : Below B w w' := (Below.refl B w).grown hg hB hr

theorem own_base {w : World} {base e size n : Nat} {v : Value} {xs : List Value} (h : w.ownsRow base e size v n xs) : ∀ k, v.ownBlock = some k → base ≤ k := by
  intro k hk
  rcases h.2 with ⟨h1, _⟩ | ⟨g, cap, cur, h1, h2, _⟩
  · subst h1; cases hk
  · subst h1; cases hk; exact h2

/-- What fault.Links comes to. -/
def LinksPost (is : List Item) (w : World) (e : Ending) (w' : World) : Prop :=
  ∃ v, e = .returned v ∧ Below w.heap.size w w' ∧ w'.ownsRow w.heap.size 51 3 v is.length (linksCells is)

def LinksRel (is : List Item) (w : World) (g : Nat) (v p : Value) (wr : World) : Prop :=
  ∃ done todo, is = done ++ todo ∧ g = todo.length ∧ p = ptrOf todo ∧ wr.ownsRow w.heap.size 51 3 v done.length (linksCells done) ∧ Below w.heap.size w wr

theorem ownsRow_below {w w' : World} {base e size n : Nat} {v : Value} {xs : List Value} (h : w.ownsRow base e size v n xs) (hb : Below w.heap.size w w') : w'.ownsRow base e size v n xs := by
  refine ⟨h.1, ?_⟩
  rcases h.2 with h2 | ⟨g, cap, cur, hv, hg, hh, r⟩
  · exact .inl h2
  · have hlt : g < w.heap.size := by
      rcases Nat.lt_or_ge g w.heap.size with h' | h'
      · exact h'
      · rw [Array.getElem?_eq_none h'] at hh; cases hh
    exact .inr ⟨g, cap, cur, hv, hg, by rw [hb.block g hlt]; exact hh, r⟩

set_option maxRecDepth 100000 in
set_option maxHeartbeats 2000000 in
theorem links_any (v : Value) (is : List Item) (w : World) (hch : Chain w.heap.size w v is) (hg : EType w) (hn : is.length ≤ 1048576) :
    Calls Tryd.prog 19 #[v] w (LinksPost is w) := by
  obtain ⟨i0, hi, hz0, hz1, hz2⟩ := info_parts Tryd.infoLink
  have hO := Lib.hid (outer_any v is w hch hg)
  have HN := Lib.hid hn
  have HC := Lib.hid hch
  have HG := Lib.hid hg
  clear hn hch hg
  go_enter Tryd.func19, Tryd.ntmps19
  go_wp2_with (go_at_call 40; refine hO.out.mono ?_; rintro e w' ⟨rfl, hb⟩)
  go_loopg [3, 4] is.length (fun g v p wr => LinksRel is w g v p wr)
  case atStart => exact ⟨[], is, rfl, rfl, rfl, ⟨rfl, .inl ⟨rfl, rfl⟩⟩, hb⟩
  case round =>
    obtain ⟨done, todo, hI, hgk, rfl, hown, hbr⟩ := hrel
    have HI := Lib.hid hI
    have HK := Lib.hid hgk
    clear hI hgk
    cases todo with
    | nil =>
      have hp : ptrOf [] = .pointer none := rfl
      rw [hp]
      clear hp
      go_wp2
      go_ret
      have e1 := HI.out
      rw [List.append_nil] at e1
      subst e1
      exact ⟨_, rfl, hbr, hown⟩
    | cons i rest =>
      have hp : ptrOf (i :: rest) = .pointer (some ⟨i.b, 0, none⟩) := rfl
      rw [hp]
      clear hp
      obtain ⟨v1, c1⟩ := Chain.drop done (HI.out ▸ HC.out)
      obtain ⟨hib, v', hblk, c2⟩ := c1.head
      obtain ⟨k0, k1, k2, k3⟩ := cell_of_block4 hblk
      have hsz := hbr.size
      have HD : Hid (done.length + 1 ≤ 1048576) := by have := HN.out; rw [HI.out] at this; simp at this; unfold Hid; omega
      have q0 : wr.cell? ⟨i.b, 0, none⟩ = some (.int .i64 i.code) := by rw [hbr.cell (p := ⟨i.b, 0, none⟩) hib]; exact k0
      have q1 : wr.cell? ⟨i.b, 1, none⟩ = some (.string i.part) := by rw [hbr.cell (p := ⟨i.b, 1, none⟩) hib]; exact k1
      have q2 : wr.cell? ⟨i.b, 2, none⟩ = some (.int .i64 i.pos) := by rw [hbr.cell (p := ⟨i.b, 2, none⟩) hib]; exact k2
      have HQ3 := Lib.hid (show ∀ w2, Below w.heap.size w w2 → w2.cell? ⟨i.b, 3, none⟩ = some v' from fun w2 h => by rw [h.cell (p := ⟨i.b, 3, none⟩) hib]; exact k3)
      have HO2 := Lib.hid (show ∀ w2, Below w.heap.size w w2 → Calls Tryd.prog 40 #[v'] w2 (OuterPost rest w2) from
        fun w2 h => outer_any v' rest w2 ((c2.kept (Nat.le_refl _) h).up h.size) (HG.out.later h))
      have HR := Lib.hid hown
      have HB := Lib.hid hbr
      clear hown hbr c1 c2 hblk k0 k1 k2 k3 hib hb
      go_wp2_with (at_builtin; refine wpList_append_own _ rfl _ _ 48 rfl w.heap.size 51 i0 (.agg #[.int .i64 0, .string ⟨#[]⟩, .int .i64 0]) 3 32 Tryd.underlying48 hi hz0 hz1 hz2 rfl (by decide) _ _ _ rfl (HR.out.alloc _) ⟨wr.heap.size, 0, none⟩ 1 1 [.int .i64 i.code, .string i.part, .int .i64 i.pos] rfl rfl ?c1 ?c2 ?c3 ?c4 ?c5 ?_)
      case c1 =>
        intro j u hj
        rcases j with _ | _ | _ | j
        · simpa [Addr.add] using hj
        · simpa [Addr.add] using hj
        · simpa [Addr.add] using hj
        · simp at hj
      case c2 => intro u hu; simp at hu; rcases hu with rfl | rfl | rfl <;> rfl
      case c3 => have := HD.out; unfold maxLen; omega
      case c4 => have := HD.out; omega
      case c5 => simp; omega
      intro v2 w2 hown2 hgrow _
      have hb1 : Below w.heap.size w w2 := (HB.out.alloc hsz _).trans (Fbelow_grown hgrow (by simp; omega) (own_base HR.out))
      have q3 := HQ3.out w2 hb1
      have HO3 := Lib.hid (HO2.out w2 hb1)
      have HW := Lib.hid hown2
      have HB1 := Lib.hid hb1
      clear hown2 hgrow hb1 q0 q1 q2 hsz
      go_wp2_with (go_at_call 40; refine HO3.out.mono ?_; rintro e w3 ⟨rfl, hb2⟩)
      go_roundg rest.length
      case measure => have := HK.out; simp at this; omega
      case rel =>
        refine ⟨done ++ [i], rest, by rw [HI.out]; simp, rfl, rfl, ?_, HB1.out.trans (hb2.mono HB1.out.size)⟩
        rw [linksCells_snoc]
        have e1 : (done ++ [i]).length = done.length + 1 := by simp
        rw [e1]
        exact ownsRow_below HW.out hb2
end Go.Proofs.YtnddojngbolbfaaDoor
