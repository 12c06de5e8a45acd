/-
  A table appended to a row of tables of one's own: the run.
  Conditions: none.
-/
import Derived.Test.YtpjmdnhoiobedaaRefOf
set_option linter.unusedVariables false
namespace Go.Proofs.Ytpjmdnhoiobedaa
open Go.RowKit

theorem app_tb (W : World) (base : Nat) (F : Nat → Prop) (v : Value) (ls : List Rt) (r : Rt) (N : Nat) (hrow : RowTb 38 W base F v ls) (hN : W.heap[N]? = some (.cells #[.int .i64 r.2.2.c, tV1 r, tV2 r] 38 (0, 0)))
    (hr : TbIn (fun b => F b ∧ v.ownBlock ≠ some b) W r) (hl : ls.length ≤ 1000) (hb : base ≤ W.heap.size) :
    ∃ v' w', (Builtin.append_ #[28, 28] 28 #[v, .slice (some ⟨N, 0, none⟩) 1 1]).run Try.prog W = .ok v' w' ∧ RowTb 38 w' base F v' (ls ++ [r]) ∧ Below base W w' ∧ (∀ b, b < W.heap.size → v.ownBlock ≠ some b → w'.heap[b]? = W.heap[b]?) ∧ (v'.ownBlock = v.ownBlock ∨ v'.ownBlock = some W.heap.size) := by
  obtain ⟨i, hi, hz0, hz1, hz2⟩ := info_parts Try.infoTb
  obtain ⟨v', w', h1, ho, hg, _, hat⟩ := run_append_own_at (P := Try.prog) W base 28 28 38 i (.agg #[.int .i64 0, .slice none 0 0, .slice none 0 0]) 3 56 Try.underlying28 hi hz0 hz1 hz2 rfl (by decide) v ls.length (rowT ls) hrow.own ⟨N, 0, none⟩ 1 1 (tbCells r) rfl (World.news_of_block hN)
    (by intro u hu; simp [tbCells] at hu; rcases hu with rfl | rfl | rfl <;> rfl) (by unfold maxLen; omega) (by omega) (by omega)
  exact ⟨v', w', h1, hrow.snoc hr ho hg hat, below_grown5 hg hb (own_base5 hrow.own), fun b hl hne => hg.block b hl fun e => hne e.symm, hat⟩
theorem tb_cells {n : Nat} {l : List Pl} {c : Int} {Ao Aw : Option Addr} {co cw Lo Lw : Nat} (h1 : (rowN n (ownF l c)).length = Lo) (h2 : (wholesT l c).length = Lw) :
    tV1 ((Ao, co), (Aw, cw), tabOf n l c) = .slice Ao Lo co ∧ tV2 ((Ao, co), (Aw, cw), tabOf n l c) = .slice Aw Lw cw := by
  subst h1 h2
  exact ⟨rfl, rfl⟩
end Go.Proofs.Ytpjmdnhoiobedaa
