/-
  The document's Split.
  Conditions: no more than 100000 bytes.
-/
import Derived.Test.YtlnheknhdabhdaaSplit
set_option linter.unusedVariables false
namespace Go.Proofs.Ytlnheknhdabhdaa
open Go.RowKit

def RefSplitRel (bs : List Nat) (w : World) (g : Nat) (s3 s4 : Value) (wr : World) : Prop :=
  ∃ (a : Nat) (l : List (Rc × Value)), a ≤ bs.length ∧ g = bs.length - a ∧ s4 = .int .i64 a ∧ l.map Prod.fst ++ splitT bs a = splitT bs 0 ∧ Below w.heap.size w wr ∧ RecsOwn 35 okV wr w.heap.size s3 l ∧ l.length ≤ a

theorem firstT_at {bs : List Nat} {a x : Nat} (h : bs[a]? = some x) : firstT (bs.drop a) = if x < 1 ∨ 120 < x then (1, false) else if bs.length - a < x + 2 then (bs.length - a, false) else (x + 2, crc ((bs.drop a).take (x + 1)) == bs.getD (a + (x + 1)) 0) := by
  have hl := (List.getElem?_eq_some_iff.1 h).1
  have hd : (bs.drop a).length = bs.length - a := List.length_drop
  have hg : (bs.drop a).getD (x + 1) 0 = bs.getD (a + (x + 1)) 0 := by
    rw [List.getD_eq_getElem?_getD, List.getD_eq_getElem?_getD, List.getElem?_drop]
  rw [← hd, ← hg]
  have hx : (bs.drop a)[0]? = some x := by rw [List.getElem?_drop]; exact h
  generalize bs.drop a = b at *
  cases b with
  | nil => cases hx
  | cons n r =>
    have e : n = x := by simpa using hx
    subst e
    rw [firstT_cons, List.length_cons]
/-- The list with the record at 'a' behind it. -/
theorem pre_next {bs : List Nat} {a len : Nat} {ok : Bool} {l : List (Rc × Value)} (hp : l.map Prod.fst ++ splitT bs a = splitT bs 0) (h : a < bs.length) (hf : firstT (bs.drop a) = (len, ok)) (u : Value) :
    (l ++ [((⟨a, len, ok, if ok = true then (bs.drop (a + 1)).take (len - 2) else []⟩ : Rc), u)]).map Prod.fst ++ splitT bs (a + len) = splitT bs 0 := by
  obtain ⟨len', ok', hf', _, _, _, hs⟩ := rc_facts h
  rw [hf] at hf'
  injection hf' with e1 e2
  subst e1 e2
  rw [← hp, hs, List.map_append, List.append_assoc]
  rfl
theorem one_four (a b c d : Value) (ha : a.oneCell' = true) (hb : b.oneCell' = true) (hc : c.oneCell' = true) (hd : d.oneCell' = true) : ∀ u ∈ [a, b, c, d], u.oneCell' = true := by
  intro u hu
  simp at hu
  rcases hu with rfl | rfl | rfl | rfl <;> assumption
theorem recs_lit (W : World) (base : Nat) (h : base ≤ W.heap.size) : RecsOwn 35 okV (W.alloc (.cells #[] 35)) base (.slice (some ⟨W.heap.size, 0, none⟩) 0 0) [] :=
  ⟨⟨rfl, .inr ⟨W.heap.size, 0, #[], rfl, h, heap_alloc_new W _, Nat.le_refl _, Nat.zero_le _, rfl, rfl⟩⟩, fun p h => by cases h⟩

set_option maxRecDepth 100000 in
set_option maxHeartbeats 4000000 in
theorem refSplit_any (v : Value) (bs : List Nat) (w : World) (hv : BytesAt w v bs) (hl : bs.length ≤ 100000) : Calls Try.prog 10 #[v] w (RetRecs okV (splitT bs 0) w) := by
  obtain ⟨i0, hi0, hz0, hz1, hz2⟩ := info_parts Try.infoRef
  have HV := Lib.hid hv
  have HL := Lib.hid hl
  have HALL := Lib.hid (bytes_all hv)
  have HLIT := Lib.hid (recs_lit w w.heap.size (Nat.le_refl _))
  have HB0 := Lib.hid (show Below w.heap.size w (w.alloc (.cells #[] 35)) from (Below.refl _ _).alloc (Nat.le_refl _) _)
  obtain ⟨A, c, rfl, h1, h2, h3, h4, h5⟩ := hv
  have HAT := Lib.hid h5
  clear h5 h4 h3
  go_enter Try.func10, Try.ntmps10
  go_wp2_with fail
  go_loopg [3, 4] bs.length (fun g s3 s4 wr => RefSplitRel bs w g s3 s4 wr)
  case atStart => exact ⟨0, [], Nat.zero_le _, rfl, rfl, rfl, HB0.out, HLIT.out, Nat.zero_le _⟩
  case round =>
    obtain ⟨a, l, ha, hg, rfl, hpre, hbw, hown, hla⟩ := hrel
    have HG := Lib.hid hg
    have HP := Lib.hid hpre
    have HB := Lib.hid hbw
    have HO := Lib.hid hown
    have hsz := hbw.size
    obtain ⟨A3, c3, rfl⟩ := own_form hown.1
    clear hg hpre hbw hown
    by_cases hlt : a < bs.length
    · obtain ⟨b, off, hA, hbl, hcell⟩ := HAT.out (by omega)
      subst hA
      obtain ⟨x, hx⟩ := ex_at hlt
      have hck := (HB.out.cell (p := ⟨b, off + a, none⟩) hbl).trans (hcell a x hx)
      have hxs : x < 256 := HALL.out x (List.mem_of_getElem? hx)
      have hfst := firstT_at hx
      have hltz : (a : Int) < (bs.length : Int) := by omega
      have ha0 : (0 : Int) ≤ (a : Int) := by omega
      have KB1 := Lib.hid (show l.length + 1 ≤ maxLen by unfold maxLen; omega)
      have KB2 := Lib.hid (show (l.length + 1) * 48 ≤ 140737488355328 by omega)
      have HPN := Lib.hid (fun len ok h u => pre_next (len := len) (ok := ok) HP.out hlt h u)
      have HNIL := Lib.hid (fun W => BytesAt.nil W)
      have HCELL := Lib.hid hcell
      have KR := Lib.hid (fun len (h : a + len ≤ bs.length) (h1 : 1 ≤ len) => (show bs.length - (a + len) < gk ∧ l.length + 1 ≤ a + len ∧ a + len ≤ bs.length ∧ (a : Int) + (len : Int) = ((a + len : Nat) : Int) from ⟨by have := HG.out; omega, by omega, h, by omega⟩))
      clear hcell hla HAT
      by_cases hm : x < 1 ∨ 120 < x
      · have hf : firstT (bs.drop a) = (1, false) := by rw [hfst, if_pos hm]
        obtain ⟨kme, kal, kle, haln⟩ := KR.out 1 (by omega) (by omega)
        have hpr := fun u => HPN.out _ _ hf u
        generalize hal : a + 1 = al at *
        have HPR : Hid (∀ u, (l ++ [((⟨a, 1, false, []⟩ : Rc), u)]).map Prod.fst ++ splitT bs al = splitT bs 0) := Lib.hid (fun u => hpr u)
        generalize hn : bs.length = n at *
        have HN := Lib.hid hn
        have KME := Lib.hid kme
        have KAL := Lib.hid kal
        have KLE := Lib.hid kle
        have hgd : (1 ≤ (x : Int) ∧ (x : Int) ≤ 120) = False := by simp; omega
        clear hpr hfst hf hn hx kme kal KR HPN hal
        by_cases hx0 : x < 1
        · have hgx : ¬ (1 : Int) ≤ (x : Int) := by omega
          have hgx' : decide ((1 : Int) ≤ (x : Int)) = false := decide_eq_false hgx
          clear hm
          go_upto_region 13 with fail
          have HBW1 := Lib.hid (show Below wr.heap.size wr (wr.alloc (.cells #[.int .i64 a, .int .i64 1, .slice none 0 0, .bool false] 35)) from (Below.refl _ _).alloc (Nat.le_refl _) _)
          have hnew := heap_alloc_new wr (.cells #[.int .i64 a, .int .i64 1, .slice none 0 0, .bool false] 35)
          have hnl : wr.heap.size < (wr.alloc (.cells #[.int .i64 a, .int .i64 1, .slice none 0 0, .bool false] 35)).heap.size := by simp
          generalize hwa : wr.alloc (.cells #[.int .i64 a, .int .i64 1, .slice none 0 0, .bool false] 35) = wa at HBW1 hnew hnl ⊢
          obtain ⟨d0, d1, d2, d3⟩ := four_cells hnew
          have HOA := Lib.hid (HO.out.keep HBW1.out)
          have HBA := Lib.hid (HB.out.trans (HBW1.out.mono hsz))
          have hsa := HBA.out.size
          clear hwa
          have HC1 := Lib.hid (fun W : World => news_four W W.heap.size rfl 35 (.int .i64 a) (.int .i64 1) (.slice none 0 0) (.bool false))
          have HC2 := Lib.hid (one_four (.int .i64 a) (.int .i64 1) (.slice none 0 0) (.bool false) rfl rfl rfl rfl)
          have HC5 := Lib.hid (show w.heap.size ≤ (wa.alloc (.cells #[.int .i64 a, .int .i64 1, .slice none 0 0, .bool false] 35)).heap.size from Nat.le_trans hsa (Nat.le_of_lt (by simp)))
          go_wp2_with (at_builtin; refine wpList_append_own_at _ rfl _ _ 26 rfl w.heap.size 35 i0 (.agg #[.int .i64 0, .int .i64 0, .slice none 0 0, .bool false]) 4 48 Try.underlying26 hi0 hz0 hz1 hz2 rfl (by decide) _ _ _ rfl (HOA.out.1.alloc _) ⟨wa.heap.size, 0, none⟩ 1 1 [.int .i64 a, .int .i64 1, .slice none 0 0, .bool false] rfl rfl (HC1.out _) HC2.out KB1.out KB2.out HC5.out ?_)
          intro v3 w3 hown3 hg3 _ hloc
          have HBW := Lib.hid (show Below wa.heap.size wa (wa.alloc (.cells #[.int .i64 a, .int .i64 1, .slice none 0 0, .bool false] 35)) from (Below.refl _ _).alloc (Nat.le_refl _) _)
          have HO3 := Lib.hid (HOA.out.more (r := ⟨a, 1, false, []⟩) HBW.out hown3 hg3 (by rw [World.size_alloc]; exact hloc) (HNIL.out _) (fun k e => by cases e))
          have HB3 := Lib.hid ((HBA.out.trans (HBW.out.mono hsa)).trans (below_grown hg3 HC5.out (own_base HOA.out.1)))
          have hpp := hg3.block
          have e1 : w3.cell? ⟨wr.heap.size, 1, none⟩ = some (.int .i64 1) := (cell_of_same (hpp _ (Nat.lt_of_lt_of_le hnl (Nat.le_of_lt (by simp))) (fun e => by have := HO.out.lt _ e.symm; omega)) 1).trans (Eq.trans (cell_of_same (Below.heap_alloc wa _ _ hnl) 1) d1)
          clear hown3 hg3 hloc hpp HBW HO HB HOA HBA HBW1 d0 d1 d2 d3 hnew
          go_wp2_with fail
          go_roundg (n - al)
          case measure => exact KME.out
          case rel => exact ⟨al, _, by rw [HN.out]; exact KLE.out, by rw [HN.out], by go_num, HPR.out _, HB3.out, HO3.out, by rw [List.length_append]; exact KAL.out⟩
        · have hgx : (1 : Int) ≤ (x : Int) := by omega
          have hgy : ¬ (x : Int) ≤ 120 := by omega
          have hgy' : decide ((x : Int) ≤ 120) = false := decide_eq_false hgy
          clear hm
          go_upto_region 13 with fail
          have HBW1 := Lib.hid (show Below wr.heap.size wr (wr.alloc (.cells #[.int .i64 a, .int .i64 1, .slice none 0 0, .bool false] 35)) from (Below.refl _ _).alloc (Nat.le_refl _) _)
          have hnew := heap_alloc_new wr (.cells #[.int .i64 a, .int .i64 1, .slice none 0 0, .bool false] 35)
          have hnl : wr.heap.size < (wr.alloc (.cells #[.int .i64 a, .int .i64 1, .slice none 0 0, .bool false] 35)).heap.size := by simp
          generalize hwa : wr.alloc (.cells #[.int .i64 a, .int .i64 1, .slice none 0 0, .bool false] 35) = wa at HBW1 hnew hnl ⊢
          obtain ⟨d0, d1, d2, d3⟩ := four_cells hnew
          have HOA := Lib.hid (HO.out.keep HBW1.out)
          have HBA := Lib.hid (HB.out.trans (HBW1.out.mono hsz))
          have hsa := HBA.out.size
          clear hwa
          have HC1 := Lib.hid (fun W : World => news_four W W.heap.size rfl 35 (.int .i64 a) (.int .i64 1) (.slice none 0 0) (.bool false))
          have HC2 := Lib.hid (one_four (.int .i64 a) (.int .i64 1) (.slice none 0 0) (.bool false) rfl rfl rfl rfl)
          have HC5 := Lib.hid (show w.heap.size ≤ (wa.alloc (.cells #[.int .i64 a, .int .i64 1, .slice none 0 0, .bool false] 35)).heap.size from Nat.le_trans hsa (Nat.le_of_lt (by simp)))
          go_wp2_with (at_builtin; refine wpList_append_own_at _ rfl _ _ 26 rfl w.heap.size 35 i0 (.agg #[.int .i64 0, .int .i64 0, .slice none 0 0, .bool false]) 4 48 Try.underlying26 hi0 hz0 hz1 hz2 rfl (by decide) _ _ _ rfl (HOA.out.1.alloc _) ⟨wa.heap.size, 0, none⟩ 1 1 [.int .i64 a, .int .i64 1, .slice none 0 0, .bool false] rfl rfl (HC1.out _) HC2.out KB1.out KB2.out HC5.out ?_)
          intro v3 w3 hown3 hg3 _ hloc
          have HBW := Lib.hid (show Below wa.heap.size wa (wa.alloc (.cells #[.int .i64 a, .int .i64 1, .slice none 0 0, .bool false] 35)) from (Below.refl _ _).alloc (Nat.le_refl _) _)
          have HO3 := Lib.hid (HOA.out.more (r := ⟨a, 1, false, []⟩) HBW.out hown3 hg3 (by rw [World.size_alloc]; exact hloc) (HNIL.out _) (fun k e => by cases e))
          have HB3 := Lib.hid ((HBA.out.trans (HBW.out.mono hsa)).trans (below_grown hg3 HC5.out (own_base HOA.out.1)))
          have hpp := hg3.block
          have e1 : w3.cell? ⟨wr.heap.size, 1, none⟩ = some (.int .i64 1) := (cell_of_same (hpp _ (Nat.lt_of_lt_of_le hnl (Nat.le_of_lt (by simp))) (fun e => by have := HO.out.lt _ e.symm; omega)) 1).trans (Eq.trans (cell_of_same (Below.heap_alloc wa _ _ hnl) 1) d1)
          clear hown3 hg3 hloc hpp HBW HO HB HOA HBA HBW1 d0 d1 d2 d3 hnew
          go_wp2_with fail
          go_roundg (n - al)
          case measure => exact KME.out
          case rel => exact ⟨al, _, by rw [HN.out]; exact KLE.out, by rw [HN.out], by go_num, HPR.out _, HB3.out, HO3.out, by rw [List.length_append]; exact KAL.out⟩
      · have hgx : (1 : Int) ≤ (x : Int) := by omega
        have hgy : (x : Int) ≤ 120 := by omega
        have hx2 : (x : Int) + 2 = ((x + 2 : Nat) : Int) := by omega
        by_cases hs : bs.length - a < x + 2
        · have hf : firstT (bs.drop a) = (bs.length - a, false) := by rw [hfst, if_neg hm, if_pos hs]
          obtain ⟨kme, kal, kle, haln⟩ := KR.out (bs.length - a) (by omega) (by omega)
          have hpr := fun u => HPN.out _ _ hf u
          have hsz' : (bs.length : Int) - (a : Int) = ((bs.length - a : Nat) : Int) := by omega
          have hsl : ((bs.length - a : Nat) : Int) < ((x + 2 : Nat) : Int) := by omega
          generalize hal : a + (bs.length - a) = al at *
          generalize hna : bs.length - a = na at *
          generalize hxx : x + 2 = x2 at *
          have HPR : Hid (∀ u, (l ++ [((⟨a, na, false, []⟩ : Rc), u)]).map Prod.fst ++ splitT bs al = splitT bs 0) := Lib.hid (fun u => hpr u)
          generalize hn : bs.length = n at *
          have HN := Lib.hid hn
          have KME := Lib.hid kme
          have KAL := Lib.hid kal
          have KLE := Lib.hid kle
          clear hpr hfst hf hn hx kme kal KR HPN hal hna hxx hs hm
          go_upto_region 13 with fail
          have HBW1 := Lib.hid (show Below wr.heap.size wr (wr.alloc (.cells #[.int .i64 a, .int .i64 na, .slice none 0 0, .bool false] 35)) from (Below.refl _ _).alloc (Nat.le_refl _) _)
          have hnew := heap_alloc_new wr (.cells #[.int .i64 a, .int .i64 na, .slice none 0 0, .bool false] 35)
          have hnl : wr.heap.size < (wr.alloc (.cells #[.int .i64 a, .int .i64 na, .slice none 0 0, .bool false] 35)).heap.size := by simp
          generalize hwa : wr.alloc (.cells #[.int .i64 a, .int .i64 na, .slice none 0 0, .bool false] 35) = wa at HBW1 hnew hnl ⊢
          obtain ⟨d0, d1, d2, d3⟩ := four_cells hnew
          have HOA := Lib.hid (HO.out.keep HBW1.out)
          have HBA := Lib.hid (HB.out.trans (HBW1.out.mono hsz))
          have hsa := HBA.out.size
          clear hwa
          have HC1 := Lib.hid (fun W : World => news_four W W.heap.size rfl 35 (.int .i64 a) (.int .i64 na) (.slice none 0 0) (.bool false))
          have HC2 := Lib.hid (one_four (.int .i64 a) (.int .i64 na) (.slice none 0 0) (.bool false) rfl rfl rfl rfl)
          have HC5 := Lib.hid (show w.heap.size ≤ (wa.alloc (.cells #[.int .i64 a, .int .i64 na, .slice none 0 0, .bool false] 35)).heap.size from Nat.le_trans hsa (Nat.le_of_lt (by simp)))
          go_wp2_with (at_builtin; refine wpList_append_own_at _ rfl _ _ 26 rfl w.heap.size 35 i0 (.agg #[.int .i64 0, .int .i64 0, .slice none 0 0, .bool false]) 4 48 Try.underlying26 hi0 hz0 hz1 hz2 rfl (by decide) _ _ _ rfl (HOA.out.1.alloc _) ⟨wa.heap.size, 0, none⟩ 1 1 [.int .i64 a, .int .i64 na, .slice none 0 0, .bool false] rfl rfl (HC1.out _) HC2.out KB1.out KB2.out HC5.out ?_)
          intro v3 w3 hown3 hg3 _ hloc
          have HBW := Lib.hid (show Below wa.heap.size wa (wa.alloc (.cells #[.int .i64 a, .int .i64 na, .slice none 0 0, .bool false] 35)) from (Below.refl _ _).alloc (Nat.le_refl _) _)
          have HO3 := Lib.hid (HOA.out.more (r := ⟨a, na, false, []⟩) HBW.out hown3 hg3 (by rw [World.size_alloc]; exact hloc) (HNIL.out _) (fun k e => by cases e))
          have HB3 := Lib.hid ((HBA.out.trans (HBW.out.mono hsa)).trans (below_grown hg3 HC5.out (own_base HOA.out.1)))
          have hpp := hg3.block
          have e1 : w3.cell? ⟨wr.heap.size, 1, none⟩ = some (.int .i64 na) := (cell_of_same (hpp _ (Nat.lt_of_lt_of_le hnl (Nat.le_of_lt (by simp))) (fun e => by have := HO.out.lt _ e.symm; omega)) 1).trans (Eq.trans (cell_of_same (Below.heap_alloc wa _ _ hnl) 1) d1)
          clear hown3 hg3 hloc hpp HBW HO HB HOA HBA HBW1 d0 d1 d2 d3 hnew
          go_wp2_with fail
          go_roundg (n - al)
          case measure => exact KME.out
          case rel => exact ⟨al, _, by rw [HN.out]; exact KLE.out, by rw [HN.out], by go_num, HPR.out _, HB3.out, HO3.out, by rw [List.length_append]; exact KAL.out⟩
        · have hf : firstT (bs.drop a) = (x + 2, crc ((bs.drop a).take (x + 1)) == bs.getD (a + (x + 1)) 0) := by rw [hfst, if_neg hm, if_neg hs]
          obtain ⟨z, hz⟩ := ex_at (xs := bs) (k := a + (x + 1)) (by omega)
          have hgd : bs.getD (a + (x + 1)) 0 = z := by rw [List.getD_eq_getElem?_getD, hz]; rfl
          rw [hgd] at hf
          have hcz := (HB.out.cell (p := ⟨b, off + (a + (x + 1)), none⟩) hbl).trans (HCELL.out _ z hz)
          obtain ⟨kme, kal, kle, haln⟩ := KR.out (x + 2) (by omega) (by omega)
          have hpr := fun u => HPN.out _ _ hf u
          have hbq := cast_beq (crc ((bs.drop a).take (x + 1))) z
          have hsz' : (bs.length : Int) - (a : Int) = ((bs.length - a : Nat) : Int) := by omega
          have hsl : ¬ ((bs.length - a : Nat) : Int) < ((x + 2 : Nat) : Int) := by omega
          have hax : (a : Int) + (x : Int) = ((a + x : Nat) : Int) := by omega
          have hs1 : ((a + x : Nat) : Int) + 1 = ((a + (x + 1) : Nat) : Int) := by omega
          have HWA := Lib.hid (show IntKind.i64.wrap ((a + x : Nat) : Int) = ((a + x : Nat) : Int) by rw [IntKind.wrap_i64]; have := HL.out; omega)
          have HWS := Lib.hid (show IntKind.i64.wrap ((a + (x + 1) : Nat) : Int) = ((a + (x + 1) : Nat) : Int) by rw [IntKind.wrap_i64]; have := HL.out; omega)
          have ha1 : (a : Int) + 1 = ((a + 1 : Nat) : Int) := by omega
          have hsn : ((a + (x + 1) : Nat) : Int) < (bs.length : Int) := by omega
          have hsc : ((a + (x + 1) : Nat) : Int) ≤ (c : Int) := by omega
          have hs0 : (0 : Int) ≤ ((a + (x + 1) : Nat) : Int) := by omega
          have has : (a : Int) ≤ ((a + (x + 1) : Nat) : Int) := by omega
          have has1 : ((a + 1 : Nat) : Int) ≤ ((a + (x + 1) : Nat) : Int) := by omega
          have hca : ¬ c = a := by omega
          have hca2 : ¬ c = a + 1 := by omega
          have hca1 : ¬ c - (a + 1) = 0 := by omega
          have hVA := HV.out.first (k := a + (x + 1)) (by omega)
          have hlt1 : (bs.take (a + (x + 1))).length = a + (x + 1) := by rw [List.length_take]; omega
          have hVB := behind_more hVA (k := a) (by omega)
          have hVC := behind_more hVA (k := a + 1) (by omega)
          rw [Option.map_some, Addr.add_lit] at hVB hVC
          have hb1 : (bs.take (a + (x + 1))).drop a = (bs.drop a).take (x + 1) := by rw [List.drop_take, show a + (x + 1) - a = x + 1 by omega]
          have hb2 : (bs.take (a + (x + 1))).drop (a + 1) = (bs.drop (a + 1)).take (x + 2 - 2) := by rw [List.drop_take, show a + (x + 1) - (a + 1) = x + 2 - 2 by omega]
          rw [hb1] at hVB
          rw [hb2] at hVC
          have HVB := Lib.hid hVB
          have HVC := Lib.hid hVC
          have HSUM := Lib.hid (fun W (h : Below w.heap.size w W) => refSum_any _ _ W (HVB.out.keep h))
          generalize (crc ((bs.drop a).take (x + 1)) == z) = p at *
          generalize crc ((bs.drop a).take (x + 1)) = cc at *
          generalize (bs.drop (a + 1)).take (x + 2 - 2) = body at *
          generalize hal : a + (x + 2) = al at *
          generalize a + (x + 1) = s1 at *
          generalize a + x = ax at *
          generalize a + 1 = a1 at *
          generalize bs.length - a = na at *
          generalize x + 2 = x2 at *
          generalize hn : bs.length = n at *
          have HN := Lib.hid hn
          have KME := Lib.hid kme
          have KAL := Lib.hid kal
          have KLE := Lib.hid kle
          have HPQ := Lib.hid hpr
          clear hpr hfst hf hn hx kme kal KR HPN hal hs hm hVA hVB hVC hb1 hb2 hlt1 hgd hz
          go_upto_region 10 with fail
          have HBW1 := Lib.hid (show Below wr.heap.size wr (wr.alloc (.cells #[.int .i64 a, .int .i64 x2, .slice none 0 0, .bool false] 35)) from (Below.refl _ _).alloc (Nat.le_refl _) _)
          have hnew := heap_alloc_new wr (.cells #[.int .i64 a, .int .i64 x2, .slice none 0 0, .bool false] 35)
          have hnl : wr.heap.size < (wr.alloc (.cells #[.int .i64 a, .int .i64 x2, .slice none 0 0, .bool false] 35)).heap.size := by simp
          generalize hwa : wr.alloc (.cells #[.int .i64 a, .int .i64 x2, .slice none 0 0, .bool false] 35) = wa at HBW1 hnew hnl ⊢
          obtain ⟨d0, d1, d2, d3⟩ := four_cells hnew
          have HOA := Lib.hid (HO.out.keep HBW1.out)
          have HBA := Lib.hid (HB.out.trans (HBW1.out.mono hsz))
          have hsa := HBA.out.size
          have hcz' := (HBW1.out.cell (p := ⟨b, off + s1, none⟩) (Nat.lt_of_lt_of_le hbl hsz)).trans hcz
          have hfz : wa.frozen? ⟨wr.heap.size, 3, none⟩ = false := by simp [World.frozen?, hnew]
          clear hwa hcz hck
          have hne1 : b ≠ wr.heap.size := by omega
          have hne2 : wr.heap.size ≠ b := by omega
          have hwax := HWA.out
          have hwas := HWS.out
          go_region_held3 (fun w' => w'.cell? ⟨b, off + s1, none⟩ = some (.int .u8 z))
            (go_keep)
            ((go_at_call 13; refine (HSUM.out _ (below_drewN HBA.out _)).mono ?_; rintro e w4 ⟨rfl, rfl⟩))
          have hn4 : ((wa.drewN 1).setCell ⟨wr.heap.size, 3, none⟩ (.bool p)).heap[wr.heap.size]? = some (.cells #[.int .i64 a, .int .i64 x2, .slice none 0 0, .bool p] 35 (0, 0)) := heap_setCell_at (wa.drewN 1) _ _ _ _ _ _ hnew
          have HB4 := Lib.hid (show Below wr.heap.size wr ((wa.drewN 1).setCell ⟨wr.heap.size, 3, none⟩ (.bool p)) from (below_drewN HBW1.out 1).setCell (Nat.le_refl _) _)
          have hnl4 : wr.heap.size < ((wa.drewN 1).setCell ⟨wr.heap.size, 3, none⟩ (.bool p)).heap.size := heap_lt hn4
          generalize hwb : (wa.drewN 1).setCell ⟨wr.heap.size, 3, none⟩ (.bool p) = wb at hn4 HB4 hnl4 ⊢
          clear hwb hwax hwas hcz' hfz hnew hnl d0 d1 d2 d3 HOA HBA hsa HBW1 hbq
          cases p
          · have HPR : Hid (∀ u, (l ++ [((⟨a, x2, false, []⟩ : Rc), u)]).map Prod.fst ++ splitT bs al = splitT bs 0) := Lib.hid (fun u => HPQ.out u)
            clear HPQ
            obtain ⟨d0, d1, d2, d3⟩ := four_cells hn4
            have HBX := HB4
            have hnl5 := hnl4
            have HOA := Lib.hid (HO.out.keep HBX.out)
            have HBA := Lib.hid (HB.out.trans (HBX.out.mono hsz))
            have hsa := HBA.out.size
            have HC1 := Lib.hid (fun W : World => news_four W W.heap.size rfl 35 (.int .i64 a) (.int .i64 x2) (.slice none 0 0) (.bool false))
            have HC2 := Lib.hid (one_four (.int .i64 a) (.int .i64 x2) (.slice none 0 0) (.bool false) rfl rfl rfl rfl)
            have HC5 := Lib.hid (show w.heap.size ≤ (wb.alloc (.cells #[.int .i64 a, .int .i64 x2, .slice none 0 0, .bool false] 35)).heap.size from Nat.le_trans hsa (Nat.le_of_lt (by simp)))
            go_wp2_with (at_builtin; refine wpList_append_own_at _ rfl _ _ 26 rfl w.heap.size 35 i0 (.agg #[.int .i64 0, .int .i64 0, .slice none 0 0, .bool false]) 4 48 Try.underlying26 hi0 hz0 hz1 hz2 rfl (by decide) _ _ _ rfl (HOA.out.1.alloc _) ⟨wb.heap.size, 0, none⟩ 1 1 [.int .i64 a, .int .i64 x2, .slice none 0 0, .bool false] rfl rfl (HC1.out _) HC2.out KB1.out KB2.out HC5.out ?_)
            intro v3 w3 hown3 hg3 _ hloc
            have HBW := Lib.hid (show Below wb.heap.size wb (wb.alloc (.cells #[.int .i64 a, .int .i64 x2, .slice none 0 0, .bool false] 35)) from (Below.refl _ _).alloc (Nat.le_refl _) _)
            have HO3 := Lib.hid (HOA.out.more (r := ⟨a, x2, false, []⟩) HBW.out hown3 hg3 (by rw [World.size_alloc]; exact hloc) (HNIL.out _) (fun k e => by cases e))
            have HB3 := Lib.hid ((HBA.out.trans (HBW.out.mono hsa)).trans (below_grown hg3 HC5.out (own_base HOA.out.1)))
            have hpp := hg3.block
            have e1 : w3.cell? ⟨wr.heap.size, 1, none⟩ = some (.int .i64 x2) := (cell_of_same (hpp _ (Nat.lt_of_lt_of_le hnl5 (Nat.le_of_lt (by simp))) (fun e => by have := HO.out.lt _ e.symm; omega)) 1).trans (Eq.trans (cell_of_same (Below.heap_alloc wb _ _ hnl5) 1) d1)
            clear hown3 hg3 hloc hpp HBW HOA HBA HBX d0 d1 d2 d3
            go_wp2_with fail
            go_roundg (n - al)
            case measure => exact KME.out
            case rel => exact ⟨al, _, by rw [HN.out]; exact KLE.out, by rw [HN.out], by go_num, HPR.out _, HB3.out, HO3.out, by rw [List.length_append]; exact KAL.out⟩
          · have HPR : Hid (∀ u, (l ++ [((⟨a, x2, true, body⟩ : Rc), u)]).map Prod.fst ++ splitT bs al = splitT bs 0) := Lib.hid (fun u => HPQ.out u)
            clear HPQ
            obtain ⟨d0, d1, d2, d3⟩ := four_cells hn4
            have hfz : wb.frozen? ⟨wr.heap.size, 2, none⟩ = false := by simp [World.frozen?, hn4]
            go_upto_region 13 with fail
            have hn5 := heap_setCell_at wb _ 2 _ _ _ (.slice (some ⟨b, off + a1, none⟩) (s1 - a1) (c - a1)) hn4
            have HB5 := Lib.hid (show Below wr.heap.size wr (wb.setCell ⟨wr.heap.size, 2, none⟩ (.slice (some ⟨b, off + a1, none⟩) (s1 - a1) (c - a1))) from HB4.out.setCell (Nat.le_refl _) _)
            generalize hwd : wb.setCell ⟨wr.heap.size, 2, none⟩ (.slice (some ⟨b, off + a1, none⟩) (s1 - a1) (c - a1)) = wd at hn5 HB5 ⊢
            have hn6 : wd.heap[wr.heap.size]? = some (.cells #[.int .i64 a, .int .i64 x2, .slice (some ⟨b, off + a1, none⟩) (s1 - a1) (c - a1), .bool true] 35 (0, 0)) := hn5
            clear d0 d1 d2 d3 hwd hfz hn4
            have hnl5 : wr.heap.size < wd.heap.size := heap_lt hn6
            obtain ⟨d0, d1, d2, d3⟩ := four_cells hn6
            have HBX := HB5
            have HOA := Lib.hid (HO.out.keep HBX.out)
            have HBA := Lib.hid (HB.out.trans (HBX.out.mono hsz))
            have hsa := HBA.out.size
            have HC1 := Lib.hid (fun W : World => news_four W W.heap.size rfl 35 (.int .i64 a) (.int .i64 x2) (.slice (some ⟨b, off + a1, none⟩) (s1 - a1) (c - a1)) (.bool true))
            have HC2 := Lib.hid (one_four (.int .i64 a) (.int .i64 x2) (.slice (some ⟨b, off + a1, none⟩) (s1 - a1) (c - a1)) (.bool true) rfl rfl rfl rfl)
            have HC5 := Lib.hid (show w.heap.size ≤ (wd.alloc (.cells #[.int .i64 a, .int .i64 x2, .slice (some ⟨b, off + a1, none⟩) (s1 - a1) (c - a1), .bool true] 35)).heap.size from Nat.le_trans hsa (Nat.le_of_lt (by simp)))
            go_wp2_with (at_builtin; refine wpList_append_own_at _ rfl _ _ 26 rfl w.heap.size 35 i0 (.agg #[.int .i64 0, .int .i64 0, .slice none 0 0, .bool false]) 4 48 Try.underlying26 hi0 hz0 hz1 hz2 rfl (by decide) _ _ _ rfl (HOA.out.1.alloc _) ⟨wd.heap.size, 0, none⟩ 1 1 [.int .i64 a, .int .i64 x2, .slice (some ⟨b, off + a1, none⟩) (s1 - a1) (c - a1), .bool true] rfl rfl (HC1.out _) HC2.out KB1.out KB2.out HC5.out ?_)
            intro v3 w3 hown3 hg3 _ hloc
            have HBW := Lib.hid (show Below wd.heap.size wd (wd.alloc (.cells #[.int .i64 a, .int .i64 x2, .slice (some ⟨b, off + a1, none⟩) (s1 - a1) (c - a1), .bool true] 35)) from (Below.refl _ _).alloc (Nat.le_refl _) _)
            have HO3 := Lib.hid (HOA.out.more (r := ⟨a, x2, true, body⟩) HBW.out hown3 hg3 (by rw [World.size_alloc]; exact hloc) (HVC.out.keep (HBA.out.trans (HBW.out.mono hsa))) (fun k e => ⟨fun e' => (by have h1 := own_base HOA.out.1 k e'; injection e with e; have h2 : b = k := e; omega), (by injection e with e; have h2 : b = k := e; have := hsa; simp; omega)⟩))
            have HB3 := Lib.hid ((HBA.out.trans (HBW.out.mono hsa)).trans (below_grown hg3 HC5.out (own_base HOA.out.1)))
            have hpp := hg3.block
            have e1 : w3.cell? ⟨wr.heap.size, 1, none⟩ = some (.int .i64 x2) := (cell_of_same (hpp _ (Nat.lt_of_lt_of_le hnl5 (Nat.le_of_lt (by simp))) (fun e => by have := HO.out.lt _ e.symm; omega)) 1).trans (Eq.trans (cell_of_same (Below.heap_alloc wd _ _ hnl5) 1) d1)
            clear hown3 hg3 hloc hpp HBW HOA HBA HBX d0 d1 d2 d3
            go_wp2_with fail
            go_roundg (n - al)
            case measure => exact KME.out
            case rel => exact ⟨al, _, by rw [HN.out]; exact KLE.out, by rw [HN.out], by go_num, HPR.out _, HB3.out, HO3.out, by rw [List.length_append]; exact KAL.out⟩
    · have hend : a = bs.length := by omega
      have hltz : ¬ (a : Int) < (bs.length : Int) := by omega
      have HF : Hid (l.map Prod.fst = splitT bs 0) := Lib.hid (by
        have h := HP.out
        rw [splitT_end (by omega), List.append_nil] at h
        exact h)
      clear hend HP
      go_wp2_with fail
      go_ret
      exact ⟨_, l, rfl, HF.out, HO.out.at_, HB.out⟩
end Go.Proofs.Ytlnheknhdabhdaa
