/-
  Proved: for every code, part, place and other code the law FaultAsks returns true, and each argument reads afterwards as it read before; the tied card.
  Conditions: the row's own: four package-level variables of Go's library start as the program's text lays them (the card ties them).
-/
import Derived.Test.YtciebpijdgdcjaaDoorRowKit
import Derived.Test.YtciebpijdgdcjaaDoorAsks
import Derived.Test.YtciebpijdgdcjaaDoorCards
import Derived.Test.YtciebpijdgdcjaaDoorTie
import Derived.SevenTiedAt
namespace Go.Proofs.YtciebpijdgdcjaaDoor
open Go.ChangeShapes Go.WideShapes Go.RowKit
open Go.ChangeMaps (open_string shut_string)

theorem asks_any (code pos other : Int) (part : ByteArray) (w : World) (he : Env w) (hc : I64 code) (hp : I64 pos) :
    Calls Tryd.prog 6 #[.int .i64 code, .string part, .int .i64 pos, .int .i64 other] w (Ans true w) := by
  by_cases hl : 200 < part.size
  · exact asks_long code pos other part w he hl
  · by_cases hpe : part.toList.isEmpty = false
    · exact asks_named code pos other part w he hc hp (by omega) hpe
    · have e : part = ⟨#[]⟩ := by
        have h1 : part.toList = [] := by simpa using hpe
        rw [ByteArray.toList_eq] at h1
        rw [← mk_data part, h1]
      subst e
      exact asks_empty code pos other w he hc hp

set_option maxRecDepth 100000 in
theorem asks_lifted (os : Os) (started : os.Started) (H : Type) (enc : TypeId × Value → H) :
    ReturnsInHanded {} Tryd.checked os 6 .any (fun w args => (Rows.faultAsksSpec.pre enc Tryd.prog Tryd.f6 [] false w args ∧ laidMetH Tryd.prog laidAll w) ∧ sizedMet enc Tryd.prog Tryd.f6 (OpenSpec.ofChange Rows.faultAsksSpec) false w args)
      (Rows.faultAsksSpec.post enc Tryd.prog Tryd.f6 false true false false) := by
  refine returnsInHanded_of_change_and (C := Tryd.checked) (X := fun w _ => laidMetH Tryd.prog laidAll w) (fun _ _ _ hh h => h.of_heap hh) Tryd.own started (by kernel_rfl) Tryd.func6
    (ChangeSpec.witness_shaped (enc := enc) (C := Tryd.checked) (os := os) (X := fun w _ => laidMetH Tryd.prog laidAll w) false (World.doorLaid Tryd.prog 31 os) #[.int .i64 0, .string ⟨#[]⟩, .int .i64 0, .int .i64 0] 8 rfl (World.shaped_of_RefB (by kernel_rfl) (by kernel_rfl)) (by kernel_rfl) (by kernel_rfl) (by kernel_rfl) (door_met os _)) ?_
  intro W base args ds gs before hval0 hW _ _ hL _
  have hval : ∀ (j : Nat) t v, Tryd.f6.params[j]? = some t → args[j]? = some v → Value.okWide Tryd.prog W .any base t v := hval0
  have hW' := hW
  obtain ⟨p, q, hA0, hV, rfl, hfz, hnd⟩ := hW
  have hA : DataW.TrodAll enc Tryd.prog W 0 (fun _ => true) true Tryd.f6.params.toList args.toList ds p := hA0
  rw [Tryd.params6] at hA hval
  obtain ⟨v0, v1, v2, v3, d0, d1, d2, d3, p0, p1, p2, p3, rfl, rfl, rfl, h0, h1, h2, h3⟩ := trodAll_four hA
  obtain ⟨rfl, rfl⟩ := trodVars_none hV
  obtain ⟨code, rfl, rfl, rfl, w0⟩ := open_int Tryd.underlying3 (hval 0 3 v0 rfl rfl) h0
  obtain ⟨part, rfl, rfl, rfl, w1⟩ := open_string Tryd.underlying9 (hval 1 9 v1 rfl rfl) h1
  obtain ⟨pos, rfl, rfl, rfl, w2⟩ := open_int Tryd.underlying3 (hval 2 3 v2 rfl rfl) h2
  obtain ⟨other, rfl, rfl, rfl, w3⟩ := open_int Tryd.underlying3 (hval 3 3 v3 rfl rfl) h3
  have he := env_of_laid hL
  have b0 := bounds_i64 w0
  have b2 := bounds_i64 w2
  clear hA0 hval0
  refine (asks_any code pos other part W he b0 b2).mono fun e W' ⟨he', hb⟩ => ?_
  subst he'
  have e1 : Rows.faultAsksSpec.fn H ([.lit (.int .i64 code), .lit (.string part.data.toList), .lit (.int .i64 pos), .lit (.int .i64 other)] ++ []) = { results := [.lit (.bool true)], args := [.lit (.int .i64 code), .lit (.string part.data.toList), .lit (.int .i64 pos), .lit (.int .i64 other)] } := by simp [Rows.faultAsksSpec]
  refine ⟨_, rfl, _, _, _, [], [], [], hW', ?_, ?_, ?_, hb.frame _, fun h => by cases h⟩
  · rw [e1]; exact trodAll_mk1 (shut_bool Tryd.underlying4 true)
  · rw [e1]; exact trodAll_mk4 (shut_int Tryd.underlying3 w0) (shut_string Tryd.underlying9 w1) (shut_int Tryd.underlying3 w2) (shut_int Tryd.underlying3 w3)
  · rw [e1]; rfl

theorem asks_said : Rows.FaultAsksSaid :=
  OpenClaim.holds_of_wide 6 Tryd.f6 rfl rfl rfl rfl rfl rfl rfl ⟨rfl, rfl, rfl, rfl, rfl⟩ rfl rfl rfl rfl rfl (by kernel_rfl) Tryd.func6 (by kernel_rfl)
    (of_decide_eq_true (by kernel_rfl)) (by unfold Func.isWrapper; rw [if_neg (of_decide_eq_false (by kernel_rfl))]; exact ⟨rfl, rfl⟩)
    (fun os started H enc _ => asks_lifted os started H enc)

theorem asks_card : Rows.FaultAsksCardSaid :=
  Claim7.holds_tied_plain_at .later [] [.data, .data, .data, .handle] true (true, "16135ca687066e9e7b6f14d4795e1fac64e77a1b23fa3421b52207589bceb686") true
    asks_said (fun _ h => by cases h) (by kernel_rfl) (fun _ h => by cases h) faultAsks_row_tie rfl ⟨rfl, rfl⟩ (by kernel_rfl) rfl
    (fun f fn hf hfn => by
      obtain rfl : f = 6 := Option.some.inj ((show Tryd.prog.funcNamed "dogwatch/dogwatchlaw01.FaultAsks" = some 6 by kernel_rfl).symm.trans hf) |>.symm
      obtain rfl : fn = Tryd.f6 := (Option.some.inj (Tryd.func6.symm.trans hfn)).symm
      exact ⟨by kernel_rfl, fun j t ht => by
        rw [Tryd.params6] at ht
        have hm : t ∈ [3, 9, 3, 3] := by simpa using Array.mem_of_getElem? ht
        have hall : ([3, 9, 3, 3].all fun u => !Tryd.prog.wantsStandIn u) = true := by kernel_rfl
        exact (show Tryd.prog.wantsStandIn t = false by simpa using List.all_eq_true.1 hall t hm)⟩)
    (by kernel_rfl)
end Go.Proofs.YtciebpijdgdcjaaDoor
