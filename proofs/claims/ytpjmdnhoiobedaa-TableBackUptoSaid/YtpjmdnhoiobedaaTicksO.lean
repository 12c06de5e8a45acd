/-
  mask.Ticks once more: what it answers lies in memory of the call's own.
  Conditions: none.
-/
import Derived.Test.YtpjmdnhoiobedaaTabs
set_option linter.unusedVariables false
namespace Go.Proofs.Ytpjmdnhoiobedaa
open Go.RowKit

def RetI (F : Nat → Prop) (xs : List Int) (w : World) (e : Ending) (w' : World) : Prop := ∃ v, e = .returned v ∧ IntsAt w' v xs ∧ InB F xs.length v ∧ Below w.heap.size w w'
set_option maxRecDepth 100000 in
set_option maxHeartbeats 1000000 in
theorem ticks_own (m : Nat) (w : World) (hm : m < 18446744073709551616) (HC : ∀ W, Calls Try.prog 69 #[.int .u64 m] W (Ret (.int .i64 (cnt m)) W)) :
    Calls Try.prog 44 #[.int .u64 m] w (RetI (fun b => w.heap.size ≤ b) (ticksI m 64) w) := by
  obtain ⟨i0, hi, hz0, hz1, hz2⟩ := info_parts Try.infoInt
  have HCC := Lib.hid HC
  have hc64 := cnt_le m
  generalize cnt m = c at *
  clear HC
  go_enter Try.func44, Try.ntmps44
  go_wp2_with (first
    | (go_at_call 69; refine (HCC.out _).mono ?_; rintro e w' ⟨rfl, rfl⟩)
    | (at_make; refine wpList_make_own _ rfl _ _ 35 rfl w.heap.size 3 i0 (.int .i64 0) 1 Try.underlying35 hi hz0 hz1 _ _ _ c rfl rfl rfl (by rw [hz2]; omega) (by unfold maxLen; omega) (Nat.le_refl _) ?_; intro w1 hown1 hgrow1))
  have HB0 := Lib.hid (below_grown4 hgrow1 (Nat.le_refl _) (fun k h => by cases h))
  have HO0 := Lib.hid hown1
  clear hown1 hgrow1
  go_loopg [3, 8] 64 (fun g s i wr => TicksRel m w g s i wr)
  case atStart => exact ⟨0, Nat.zero_le _, rfl, rfl, HB0.out, HO0.out⟩
  case round =>
    obtain ⟨k, hk, hg, rfl, hbr, hown⟩ := hrel
    have HG := Lib.hid hg
    have HB := Lib.hid hbr
    have HO := Lib.hid hown
    clear hg hbr hown
    by_cases hlt : k < 64
    · have HH := Lib.hid (fun W => has_any m (k : Int) W hm)
      rw [hasB_nat hlt] at HH
      have hlen : cntT m k ≤ k := cntT_le m k
      rw [ticksI_length] at HO
      generalize hn : cntT m k = n at *
      have HN := Lib.hid hn
      clear hn
      cases hb : m.testBit k
      · have HE := Lib.hid (ticksI_no hb)
        rw [hb] at HH
        clear hb
        go_wp2_with (go_at_call 70; refine (HH.out _).mono ?_; rintro e w' ⟨rfl, rfl⟩)
        go_roundg (64 - (k + 1))
        case measure => have := HG.out; omega
        case rel => exact ⟨k + 1, by omega, rfl, by go_num, HB.out, by rw [HE.out, ticksI_length, HN.out]; exact HO.out⟩
      · have HE := Lib.hid (ticksI_yes hb)
        rw [hb] at HH
        clear hb
        have hsz := HB.out.size
        go_wp2_with (first
          | (go_at_call 70; refine (HH.out _).mono ?_; rintro e w' ⟨rfl, rfl⟩)
          | (at_builtin; refine wpList_append_own _ rfl _ _ 35 rfl w.heap.size 3 i0 (.int .i64 0) 1 8 Try.underlying35 hi hz0 hz1 hz2 rfl (by decide) _ _ _ rfl (HO.out.alloc _) ⟨wr.heap.size, 0, none⟩ 1 1 [.int .i64 k] rfl rfl ?c1 ?c2 ?c3 ?c4 ?c5 ?_))
        case c1 =>
          intro j u hj
          rcases j with _ | j
          · simpa [Addr.add] using hj
          · simp at hj
        case c2 => intro u hu; simp at hu; subst hu; rfl
        case c3 => unfold maxLen; omega
        case c4 => omega
        case c5 => simp; omega
        intro v2 w2 hown2 hgrow _
        have HB2 := Lib.hid ((HB.out.alloc hsz _).trans (below_grown4 hgrow (by simp; omega) (own_base4 HO.out)))
        have HO2 := Lib.hid hown2
        clear hown2 hgrow hsz
        go_wp2
        go_roundg (64 - (k + 1))
        case measure => have := HG.out; omega
        case rel =>
          refine ⟨k + 1, by omega, rfl, by go_num, HB2.out, ?_⟩
          have e := HO2.out
          rw [HE.out, List.length_append, ticksI_length, HN.out, List.map_append]
          exact e
    · have hk64 : k = 64 := by omega
      subst hk64
      have HR := Lib.hid (ints_of_own HO.out (by rw [ticksI_length]; have := cntT_le m 64; omega))
      go_wp2
      go_ret
      exact ⟨_, rfl, HR.out, fun _ b hb => own_base4 HO.out b hb, HB.out⟩

end Go.Proofs.Ytpjmdnhoiobedaa
