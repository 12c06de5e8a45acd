/-
  The program's Split.
  Conditions: no more than 100000 bytes.
-/
import Derived.Test.YtlnheknhdabhdaaRecs
set_option linter.unusedVariables false
namespace Go.Proofs.Ytlnheknhdabhdaa
open Go.RowKit

def SplitRel (bs : List Nat) (w : World) (g : Nat) (s3 s4 : Value) (wr : World) : Prop :=
  ∃ (a : Nat) (l : List (Rc × Value)), a ≤ bs.length ∧ g = bs.length - a ∧ s4 = .int .i64 a ∧ l.map Prod.fst ++ splitT bs a = splitT bs 0 ∧ Below w.heap.size w wr ∧ RecsOwn 33 errV wr w.heap.size s3 l ∧ l.length ≤ a

/-- What the round needs of the record at 'a'. -/
theorem rc_facts {bs : List Nat} {a : Nat} (h : a < bs.length) : ∃ len ok, firstT (bs.drop a) = (len, ok) ∧ 1 ≤ len ∧ a + len ≤ bs.length ∧ (ok = true → 3 ≤ len) ∧
    splitT bs a = ⟨a, len, ok, if ok = true then (bs.drop (a + 1)).take (len - 2) else []⟩ :: splitT bs (a + len) := by
  have h1 := rcT_len h
  refine ⟨(firstT (bs.drop a)).1, (firstT (bs.drop a)).2, rfl, h1.1, h1.2, fun h2 => (firstT_body h2).1, ?_⟩
  rw [splitT_more h]
  rfl

/-- The body's row, behind the store of it. -/
theorem body_set {w1 w2 wa : World} {cs : Array Value} {T : TypeId} {v : Value} {body : List Nat} (hn : w2.heap[w1.heap.size]? = some (.cells cs T (0, 0))) (hv : Own w2 wa.heap.size v body) (hs : w1.heap.size < wa.heap.size) :
    BytesAt (w2.setCell ⟨w1.heap.size, 2, none⟩ v) v body ∧ (∀ k, v.ownBlock = some k → wa.heap.size ≤ k ∧ k < (w2.setCell ⟨w1.heap.size, 2, none⟩ v).heap.size) ∧ (w2.setCell ⟨w1.heap.size, 2, none⟩ v).heap[w1.heap.size]? = some (.cells (cs.setIfInBounds 2 v) T (0, 0)) := by
  refine ⟨hv.bytes.apart ((Apart.refl (fun k => k = w1.heap.size) w2).set (p := ⟨w1.heap.size, 2, none⟩) (.inl rfl) _) (fun k hk e => ?_), fun k hk => ⟨hv.base k hk, ?_⟩, heap_setCell_at _ _ _ _ _ _ _ hn⟩
  · have := hv.base k hk
    omega
  · rcases hv.1.2 with ⟨h1, _⟩ | ⟨g, cap, cur, h1, h2, h3, _⟩
    · subst h1; cases hk
    · subst h1; cases hk
      have := heap_lt h3
      simpa [World.setCell] using this
theorem four_cells {W : World} {g : Nat} {T : TypeId} {a b c d : Value} (h : W.heap[g]? = some (.cells #[a, b, c, d] T (0, 0))) :
    W.cell? ⟨g, 0, none⟩ = some a ∧ W.cell? ⟨g, 1, none⟩ = some b ∧ W.cell? ⟨g, 2, none⟩ = some c ∧ W.cell? ⟨g, 3, none⟩ = some d := by
  refine ⟨?_, ?_, ?_, ?_⟩ <;> simp [World.cell?, h]
theorem own_slice3 {W : World} {base : Nat} {v : Value} {xs : List Nat} (h : Own W base v xs) : ∃ A n c, v = .slice A n c := by
  obtain ⟨A, c, h, _⟩ := h.bytes
  exact ⟨A, _, c, h⟩
set_option maxRecDepth 100000 in
set_option maxHeartbeats 1000000 in
theorem split_any (v : Value) (bs : List Nat) (w : World) (hv : BytesAt w v bs) (hl : bs.length ≤ 100000) : Calls Try.prog 9 #[v] w (RetRecs errV (splitT bs 0) w) := by
  obtain ⟨i0, hi0, hz0, hz1, hz2⟩ := info_parts Try.infoRec
  have HV := Lib.hid hv
  have HL := Lib.hid hl
  obtain ⟨A, c, rfl, h1, h2, h3, h4, h5⟩ := hv
  have HAT := Lib.hid h5
  clear h5 h4 h3
  go_enter Try.func9, Try.ntmps9
  go_wp2_with fail
  go_loopg [3, 4] bs.length (fun g s3 s4 wr => SplitRel bs w g s3 s4 wr)
  case atStart => exact ⟨0, [], Nat.zero_le _, rfl, rfl, rfl, Below.refl _ _, RecsOwn.nil _ _ _ _, Nat.zero_le _⟩
  case round =>
    obtain ⟨a, l, ha, hg, rfl, hpre, hbw, hown, hla⟩ := hrel
    have HG := Lib.hid hg
    have HP := Lib.hid hpre
    have HB := Lib.hid hbw
    have HO := Lib.hid hown
    have hsz := hbw.size
    obtain ⟨A3, c3, rfl⟩ := own_form hown.1
    clear hg hpre hbw hown
    by_cases hlt : a < bs.length
    · obtain ⟨len, ok, hf, hl1, hl2, hl3, hs⟩ := rc_facts hlt
      obtain ⟨b, off, hA, hbl, hcell⟩ := HAT.out (by omega)
      subst hA
      have HVR := Lib.hid (HV.out.keep HB.out)
      have HFI := Lib.hid (first_any _ _ wr (behind_more HVR.out (k := a) (by omega)) (by rw [List.length_drop]; omega))
      rw [Option.map_some, Addr.add_lit] at HFI
      unfold firstV at HFI
      rw [hf] at HFI
      have HPRE := Lib.hid (show ∀ u, (l ++ [((⟨a, len, ok, if ok = true then (bs.drop (a + 1)).take (len - 2) else []⟩ : Rc), u)]).map Prod.fst ++ splitT bs (a + len) = splitT bs 0 by
        intro u
        rw [← HP.out, hs, List.map_append, List.append_assoc]
        rfl)
      have hltz : (a : Int) < (bs.length : Int) := by omega
      have ha0 : (0 : Int) ≤ (a : Int) := by omega
      have hac : (a : Int) ≤ (c : Int) := by omega
      have halc : ¬ c - a = 0 := by omega
      have haln : (a : Int) + (len : Int) = ((a + len : Nat) : Int) := by omega
      have HALW := Lib.hid (show wrap64 ((a + len : Nat) : Int) = ((a + len : Nat) : Int) from wrap64_small (by omega) (by have := HL.out; omega))
      have HLEN := Lib.hid hl1
      have HALN := Lib.hid hl2
      generalize hn : bs.length = n at *
      have HN := Lib.hid hn
      generalize hal : a + len = al at *
      have HAL := Lib.hid hal
      clear hcell hs hf hn
      have KB1 := Lib.hid (show l.length + 1 ≤ maxLen by unfold maxLen; omega)
      have KB2 := Lib.hid (show (l.length + 1) * 48 ≤ 140737488355328 by omega)
      have KME := Lib.hid (show n - (a + len) < gk by have := HG.out; omega)
      have KAL := Lib.hid (show l.length + 1 ≤ a + len by omega)
      rw [hal] at KAL KME
      clear hal hla
      cases ok
      · have HPR2 : Hid (∀ u, (l ++ [((⟨a, len, false, []⟩ : Rc), u)]).map Prod.fst ++ splitT bs al = splitT bs 0) := Lib.hid (fun u => HPRE.out u)
        clear HPRE
        have HNIL := Lib.hid (fun W => BytesAt.nil W)
        go_upto_region 9 with (go_at_call 26; refine HFI.out.mono ?_; rintro e w1 ⟨rfl, hb1⟩; have HB1 := Lib.hid (HB.out.trans (hb1.mono hsz)); have HO1 := Lib.hid (HO.out.keep hb1); have hsz1 := HB1.out.size; clear hb1 HB HO HVR HFI)
        have HBW1 := Lib.hid (show Below w1.heap.size w1 (w1.alloc (.cells #[.int .i64 a, .int .i64 len, .slice none 0 0, .int .i64 3] 33)) from (Below.refl _ _).alloc (Nat.le_refl _) _)
        obtain ⟨d0, d1, d2, d3⟩ := new_four w1 33 (.int .i64 a) (.int .i64 len) (.slice none 0 0) (.int .i64 3)
        generalize hwa : w1.alloc (.cells #[.int .i64 a, .int .i64 len, .slice none 0 0, .int .i64 3] 33) = wa at HBW1 d0 d1 d2 d3 ⊢
        have HOA := Lib.hid (HO1.out.keep HBW1.out)
        have HBA := Lib.hid (HB1.out.trans (HBW1.out.mono hsz1))
        have hsa := HBA.out.size
        clear hwa
        go_wp2_with (at_builtin; refine wpList_append_own_at _ rfl _ _ 24 rfl w.heap.size 33 i0 (.agg #[.int .i64 0, .int .i64 0, .slice none 0 0, .int .i64 0]) 4 48 Try.underlying24 hi0 hz0 hz1 hz2 rfl (by decide) _ _ _ rfl (HOA.out.1.alloc _) ⟨wa.heap.size, 0, none⟩ 1 1 [.int .i64 a, .int .i64 len, .slice none 0 0, .int .i64 3] rfl rfl ?c1 ?c2 ?c3 ?c4 ?c5 ?_)
        case c1 => exact news_four _ _ rfl _ _ _ _ _
        case c2 => intro u hu; simp at hu; rcases hu with rfl | rfl | rfl | rfl <;> rfl
        case c3 => exact KB1.out
        case c4 => exact KB2.out
        case c5 => exact Nat.le_trans hsa (Nat.le_of_lt (by simp))
        intro v3 w3 hown3 hg3 _ hloc
        have HBW := Lib.hid (show Below wa.heap.size wa (wa.alloc (.cells #[.int .i64 a, .int .i64 len, .slice none 0 0, .int .i64 3] 33)) from (Below.refl _ _).alloc (Nat.le_refl _) _)
        have HO3 := Lib.hid (HOA.out.more (r := ⟨a, len, false, []⟩) HBW.out hown3 hg3 (by rw [World.size_alloc]; exact hloc) (HNIL.out _) (fun k e => by cases e))
        have HB3 := Lib.hid ((HBA.out.trans (HBW.out.mono hsa)).trans (below_grown hg3 (Nat.le_trans hsa (Nat.le_of_lt (by simp))) (own_base HOA.out.1)))
        clear hown3 hg3 hloc HBW HO1 HB1 HOA HBA HBW1
        go_wp2_with fail
        go_roundg (n - al)
        case measure => exact KME.out
        case rel => exact ⟨al, _, by rw [HN.out]; exact HALN.out, by rw [HN.out], by go_num, HPR2.out _, HB3.out, HO3.out, by rw [List.length_append]; exact KAL.out⟩
      · have h3' := hl3 rfl
        obtain ⟨al1, hal1⟩ : ∃ x, al - 1 = x := ⟨_, rfl⟩
        obtain ⟨a1, ha1⟩ : ∃ x, a + 1 = x := ⟨_, rfl⟩
        have hz1' : (al : Int) - 1 = (al1 : Int) := by omega
        have hz2' : (a : Int) + 1 = (a1 : Int) := by omega
        have hz5 : (a1 : Int) ≤ (al1 : Int) := by have := HAL.out; omega
        have hz6 : (al1 : Int) ≤ (c : Int) := by omega
        have hz7 : ¬ c - a1 = 0 := by have := HAL.out; omega
        have hz8 : (0 : Int) ≤ (a1 : Int) := by omega
        have HZ4 := Lib.hid (show wrap64 (a1 : Int) = (a1 : Int) from wrap64_small (by omega) (by omega))
        have HZ3 := Lib.hid (show wrap64 (al1 : Int) = (al1 : Int) from wrap64_small (by omega) (by omega))
        have HPR2 : Hid (∀ u, (l ++ [((⟨a, len, true, (bs.drop (a + 1)).take (len - 2)⟩ : Rc), u)]).map Prod.fst ++ splitT bs al = splitT bs 0) := Lib.hid (fun u => HPRE.out u)
        have HVA := HV.out.first (k := al1) (by have := HN.out; omega)
        have HL1 : Hid ((bs.take al1).length = al1) := Lib.hid (by rw [List.length_take]; have := HN.out; omega)
        have HVB := Lib.hid (behind_more HVA (k := a1) (by rw [HL1.out]; omega))
        rw [Option.map_some, Addr.add_lit] at HVB
        have HBODY : Hid ((bs.take al1).drop a1 = (bs.drop (a + 1)).take (len - 2)) := Lib.hid (by
          rw [← hal1, ← ha1, List.drop_take, show al - 1 - (a + 1) = len - 2 by have := HAL.out; omega])
        rw [ha1] at HPR2 HBODY
        generalize (bs.drop a1).take (len - 2) = body at *
        clear HPRE HVA h3' hal1 ha1
        go_upto_region 8 with (go_at_call 26; refine HFI.out.mono ?_; rintro e w1 ⟨rfl, hb1⟩; have HB1 := Lib.hid (HB.out.trans (hb1.mono hsz)); have HO1 := Lib.hid (HO.out.keep hb1); have hsz1 := HB1.out.size; clear hb1 HB HO HVR HFI)
        have hnew := heap_alloc_new w1 (.cells #[.int .i64 a, .int .i64 len, .slice none 0 0, .int .i64 0] 33)
        have HBW1 := Lib.hid (show Below w1.heap.size w1 (w1.alloc (.cells #[.int .i64 a, .int .i64 len, .slice none 0 0, .int .i64 0] 33)) from (Below.refl _ _).alloc (Nat.le_refl _) _)
        have hsw : w1.heap.size < (w1.alloc (.cells #[.int .i64 a, .int .i64 len, .slice none 0 0, .int .i64 0] 33)).heap.size := by simp
        generalize hwa : w1.alloc (.cells #[.int .i64 a, .int .i64 len, .slice none 0 0, .int .i64 0] 33) = wa at HBW1 hnew hsw ⊢
        have HNEW := Lib.hid hnew
        have HBA := Lib.hid (HB1.out.trans (HBW1.out.mono hsz1))
        have HCL := Lib.hid (clone_any _ _ wa (by rw [List.length_drop, HL1.out]; omega) (HVB.out.keep HBA.out))
        rw [HBODY.out] at HCL
        clear hwa hnew HVB HL1 HBODY
        go_upto_region 9 with (go_at_call 27; refine HCL.out.mono ?_; rintro e w2 ⟨v2, rfl, hown2, hb2⟩; obtain ⟨A2, k2, c2, rfl⟩ := own_slice3 hown2; have HV2 := Lib.hid hown2; have HB2 := Lib.hid hb2; have hn2 := (hb2.block _ hsw).trans HNEW.out; have hfz : w2.frozen? ⟨w1.heap.size, 2, none⟩ = false := (by simp [World.frozen?, hn2]); have hcz : w2.cell? ⟨w1.heap.size, 2, none⟩ = some (.slice none 0 0) := (by simp [World.cell?, hn2]); have HN2 := Lib.hid hn2; clear hn2 hown2 hb2)
        have hlw : w1.heap.size < w2.heap.size := by have := HB2.out.size; omega
        obtain ⟨hbx, hub, hn3⟩ := body_set HN2.out HV2.out hsw
        generalize hwb : w2.setCell ⟨w1.heap.size, 2, none⟩ (.slice A2 k2 c2) = wb at hbx hub hn3 ⊢
        obtain ⟨d0, d1, d2, d3⟩ := four_cells hn3
        have HBW2 := Lib.hid (show Below w1.heap.size w1 wb by
          rw [← hwb]
          exact (HBW1.out.trans (HB2.out.mono (Nat.le_of_lt hsw))).setCell (Nat.le_refl _) _)
        have HOB := Lib.hid (HO1.out.keep HBW2.out)
        have HBB := Lib.hid (HB1.out.trans (HBW2.out.mono hsz1))
        have hsb := HBB.out.size
        have HBX := Lib.hid hbx
        have HUB := Lib.hid hub
        clear hwb hn3 hbx hub hfz hcz hlw HN2 HB2 HV2 HCL HBA HNEW HBW1
        go_wp2_with (at_builtin; refine wpList_append_own_at _ rfl _ _ 24 rfl w.heap.size 33 i0 (.agg #[.int .i64 0, .int .i64 0, .slice none 0 0, .int .i64 0]) 4 48 Try.underlying24 hi0 hz0 hz1 hz2 rfl (by decide) _ _ _ rfl (HOB.out.1.alloc _) ⟨wb.heap.size, 0, none⟩ 1 1 [.int .i64 a, .int .i64 len, .slice A2 k2 c2, .int .i64 0] rfl rfl ?c1 ?c2 ?c3 ?c4 ?c5 ?_)
        case c1 => exact news_four _ _ rfl _ _ _ _ _
        case c2 => intro u hu; simp at hu; rcases hu with rfl | rfl | rfl | rfl <;> rfl
        case c3 => exact KB1.out
        case c4 => exact KB2.out
        case c5 => exact Nat.le_trans hsb (Nat.le_of_lt (by simp))
        intro v3 w3 hown3 hg3 _ hloc
        have HBW := Lib.hid (show Below wb.heap.size wb (wb.alloc (.cells #[.int .i64 a, .int .i64 len, .slice A2 k2 c2, .int .i64 0] 33)) from (Below.refl _ _).alloc (Nat.le_refl _) _)
        have HO3 := Lib.hid (HOB.out.more (r := ⟨a, len, true, body⟩) HBW.out hown3 hg3 (by rw [World.size_alloc]; exact hloc) (HBX.out.keep HBW.out) (fun k e => ⟨fun e' => (by
          have h1 := HUB.out k e
          have h2 := HO1.out.lt k e'
          omega), Nat.lt_of_lt_of_le (HUB.out k e).2 HBW.out.size⟩))
        have HB3 := Lib.hid ((HBB.out.trans (HBW.out.mono hsb)).trans (below_grown hg3 (Nat.le_trans hsb (Nat.le_of_lt (by simp))) (own_base HOB.out.1)))
        clear hown3 hg3 hloc HBW HO1 HB1 HOB HBB HBX HUB
        go_wp2_with fail
        go_roundg (n - al)
        case measure => exact KME.out
        case rel => exact ⟨al, _, by rw [HN.out]; exact HALN.out, by rw [HN.out], by go_num, HPR2.out _, HB3.out, HO3.out, by rw [List.length_append]; exact KAL.out⟩
    · have hend : a = bs.length := by omega
      have hltz : ¬ (a : Int) < (bs.length : Int) := by omega
      have HF : Hid (l.map Prod.fst = splitT bs 0) := Lib.hid (by
        have h := HP.out
        rw [splitT_end (by omega), List.append_nil] at h
        exact h)
      clear hend HP
      go_wp2_with fail
      go_ret
      exact ⟨_, l, rfl, HF.out, HO.out.at_, HB.out⟩
end Go.Proofs.Ytlnheknhdabhdaa
