/-
  Wants along the chain, of the program.
  Conditions: the slices read as places, as wants; the numbers are of their kinds; both are short.
-/
import Derived.Test.YtpfpojehcjmfnaaGreatM01
import Derived.Test.YtpfpojehcjmfnaaGreatM02
import Derived.Test.YtpfpojehcjmfnaaGreatM12
import Derived.Test.YtpfpojehcjmfnaaGreatM19
import Derived.Test.YtpfpojehcjmfnaaGreatM16
import Derived.Test.YtpfpojehcjmfnaaGreatM15
import Derived.Test.YtpfpojehcjmfnaaGreatM03
import Derived.Test.YtpfpojehcjmfnaaGreatM18
import Derived.Test.YtpfpojehcjmfnaaGreatM17

/-
  A sum of the program's and of the document's.
  Conditions: the numbers are ints.
-/
set_option linter.unusedVariables false
namespace Go.Proofs.YtpfpojehcjmfnaaGreat
open Go.RowKit

/-- A sum as the program tells it, and as the document tells it. -/
def sumV (o : Option Int) : Int := o.getD 0
def sumE (o : Option Int) : Int := if o.isSome then 0 else 5
theorem add_any (a b : Int) (a1 : -9223372036854775808 ≤ a) (a2 : a ≤ 9223372036854775807) (b1 : -9223372036854775808 ≤ b) (b2 : b ≤ 9223372036854775807) (w : World) :
    Calls Tryz.prog 107 #[.int .i64 a, .int .i64 b] w (Ret (.tuple #[.int .i64 (sumV (addO a b)), .int .i64 (sumE (addO a b))]) w) := by
  by_cases h : -9223372036854775808 ≤ a + b ∧ a + b ≤ 9223372036854775807
  · rw [show addO a b = some (a + b) from if_pos h]
    obtain ⟨h1, h2⟩ := h
    show Calls _ _ _ _ (Ret (.tuple #[.int .i64 (a + b), .int .i64 0]) w)
    have ht : (!(decide (a + b < a) == decide (b < 0))) = false := by
      by_cases hb : b < 0 <;> simp [hb] <;> omega
    go_enter Tryz.func107, Tryz.ntmps107
    go_wp2
    go_returns
    exact ⟨rfl, rfl⟩
  · rw [show addO a b = none from if_neg h]
    show Calls _ _ _ _ (Ret (.tuple #[.int .i64 0, .int .i64 5]) w)
    have ht : (!(decide (wrap64 (a + b) < a) == decide (b < 0))) = true := by
      unfold wrap64
      by_cases hb : b < 0 <;> simp [hb] <;> omega
    generalize hs : wrap64 (a + b) = s at *
    clear h
    go_enter Tryz.func107, Tryz.ntmps107
    go_wp2
    go_returns
    exact ⟨rfl, rfl⟩
def sumB (o : Option Int) : Bool := o.isSome
theorem refAdd_any (a b : Int) (a1 : -9223372036854775808 ≤ a) (a2 : a ≤ 9223372036854775807) (b1 : -9223372036854775808 ≤ b) (b2 : b ≤ 9223372036854775807) (w : World) :
    Calls Tryz.prog 49 #[.int .i64 a, .int .i64 b] w (Ret (.tuple #[.int .i64 (sumV (addO a b)), .bool (sumB (addO a b))]) w) := by
  by_cases h : -9223372036854775808 ≤ a + b ∧ a + b ≤ 9223372036854775807
  · rw [show addO a b = some (a + b) from if_pos h]
    obtain ⟨h1, h2⟩ := h
    show Calls _ _ _ _ (Ret (.tuple #[.int .i64 (a + b), .bool true]) w)
    go_enter Tryz.func49, Tryz.ntmps49
    go_wp2
    all_goals go_returns
    all_goals exact ⟨rfl, rfl⟩
  · rw [show addO a b = none from if_neg h]
    show Calls _ _ _ _ (Ret (.tuple #[.int .i64 0, .bool false]) w)
    have h' : 9223372036854775807 < a + b ∨ a + b < -9223372036854775808 := by omega
    clear h
    rcases h' with h | h
    · go_enter Tryz.func49, Tryz.ntmps49
      go_wp2
      all_goals go_returns
      all_goals exact ⟨rfl, rfl⟩
    · go_enter Tryz.func49, Tryz.ntmps49
      go_wp2
      all_goals go_returns
      all_goals exact ⟨rfl, rfl⟩
theorem addO_in {a b t : Int} (h : addO a b = some t) : -9223372036854775808 ≤ t ∧ t ≤ 9223372036854775807 := by
  unfold addO at h
  split at h
  · cases h; assumption
  · cases h
end Go.Proofs.YtpfpojehcjmfnaaGreat

/-
  Total of the program and of the document; two slices that read alike.
  Conditions: the slices read as wants of ints.
-/
set_option linter.unusedVariables false
namespace Go.Proofs.YtpfpojehcjmfnaaGreat
open Go.RowKit

def TotRel (n : Nat) (ps : List Sp) (R : Option Int) (w : World) (gg : Nat) (s4 s11 : Value) (wr : World) : Prop :=
  ∃ (i : Nat) (t : Int), i ≤ n ∧ gg = n - i ∧ s11 = .int .i64 i ∧ s4 = .int .i64 t ∧ Below w.heap.size w wr ∧ totL t (ps.drop i) = R ∧ -9223372036854775808 ≤ t ∧ t ≤ 9223372036854775807

set_option maxRecDepth 100000 in
set_option maxHeartbeats 2000000 in
theorem total_any (v : Value) (ps : List Sp) (w : World) (h : SpansAt w v ps) (hi : IntsS ps) :
    Calls Tryz.prog 59 #[v] w (RetB (.tuple #[.int .i64 (sumV (totT ps)), .int .i64 (sumE (totT ps))]) w) := by
  obtain ⟨A, c, rfl, hc1, hlen, hc2, hat⟩ := h
  have HAT := Lib.hid hat
  have HI := Lib.hid hi
  obtain ⟨R, hR⟩ : ∃ R, totT ps = R := ⟨_, rfl⟩
  have HR := Lib.hid hR
  rw [hR]
  generalize hn : ps.length = n at *
  have HN := Lib.hid hn
  clear hat hn hR hi
  go_enter Tryz.func59, Tryz.ntmps59
  go_wp2_with fail
  go_loopg [4, 6, 7, 8, 11] n (fun gg s4 _ _ _ s11 wr => TotRel n ps R w gg s4 s11 wr)
  case atStart => exact ⟨0, 0, Nat.zero_le _, by omega, rfl, rfl, Below.refl _ _, HR.out, by decide, by decide⟩
  case round =>
    obtain ⟨i, t, hin, hgg, rfl, rfl, hbw, htot, ht1, ht2⟩ := hrel
    have HG := Lib.hid hgg
    have HB := Lib.hid hbw
    have HT := Lib.hid htot
    have HB1 := Lib.hid (And.intro ht1 ht2)
    have hsz := hbw.size
    clear hgg hbw htot
    by_cases hlt : i < n
    · have hltz : (i : Int) < (n : Int) := by omega
      obtain ⟨b, off, hA, hbl, hcell⟩ := HAT.out (by omega)
      subst hA
      obtain ⟨y, hy⟩ := ex_at (xs := ps) (k := i) (by rw [HN.out]; exact hlt)
      obtain ⟨c1, c2⟩ := (hcell i y hy).keep HB.out hbl
      obtain ⟨_, b1, b2⟩ := HI.out.at_ hy
      have HY := Lib.hid (drop_of hy)
      have hadd := fun W => add_any t y.2 ht1 ht2 b1 b2 W
      cases ho : addO t y.2 with
      | none =>
        rw [ho] at hadd
        have HADD : Hid (∀ W, Calls Tryz.prog 107 #[.int .i64 t, .int .i64 y.2] W (Ret (.tuple #[.int .i64 0, .int .i64 5]) W)) := hadd
        have HRN : Hid (R = none) := by
          have := HT.out
          rw [HY.out, totL_none ho] at this
          exact this.symm
        obtain ⟨y1, y2⟩ := y
        simp only at c1 c2 HADD
        clear hcell hy hadd ho b1 b2 ht1 ht2
        go_wp2_with (go_at_call 107; refine (HADD.out _).mono ?_; rintro e w' ⟨rfl, rfl⟩)
        go_returns
        exact ⟨by rw [HRN.out]; rfl, HB.out.alloc hsz _⟩
      | some t' =>
        rw [ho] at hadd
        have HADD : Hid (∀ W, Calls Tryz.prog 107 #[.int .i64 t, .int .i64 y.2] W (Ret (.tuple #[.int .i64 t', .int .i64 0]) W)) := hadd
        have HRN : Hid (totL t' (ps.drop (i + 1)) = R) := by
          have := HT.out
          rw [HY.out, totL_some ho] at this
          exact this
        have HTI := Lib.hid (addO_in ho)
        obtain ⟨y1, y2⟩ := y
        simp only at c1 c2 HADD
        clear hcell hy hadd ho b1 b2 ht1 ht2
        go_wp2_with (go_at_call 107; refine (HADD.out _).mono ?_; rintro e w' ⟨rfl, rfl⟩)
        go_roundg (n - (i + 1))
        case measure => have := HG.out; omega
        case rel => exact ⟨i + 1, t', by omega, rfl, by go_num, rfl, HB.out.alloc hsz _, HRN.out, HTI.out.1, HTI.out.2⟩
    · have hin' : i = n := by omega
      subst hin'
      have hltz : ¬ (i : Int) < (i : Int) := by omega
      have HRN : Hid (R = some t) := by
        have := HT.out
        rw [List.drop_eq_nil_of_le (by rw [HN.out]; exact Nat.le_refl _)] at this
        exact this.symm
      clear ht1 ht2
      go_wp2
      go_returns
      exact ⟨by rw [HRN.out]; rfl, HB.out⟩

set_option maxRecDepth 100000 in
set_option maxHeartbeats 2000000 in
theorem refTotal_any (v : Value) (ps : List Sp) (w : World) (h : SpansAt w v ps) (hi : IntsS ps) :
    Calls Tryz.prog 18 #[v] w (RetB (.tuple #[.int .i64 (sumV (totT ps)), .bool (sumB (totT ps))]) w) := by
  obtain ⟨A, c, rfl, hc1, hlen, hc2, hat⟩ := h
  have HAT := Lib.hid hat
  have HI := Lib.hid hi
  obtain ⟨R, hR⟩ : ∃ R, totT ps = R := ⟨_, rfl⟩
  have HR := Lib.hid hR
  rw [hR]
  generalize hn : ps.length = n at *
  have HN := Lib.hid hn
  clear hat hn hR hi
  go_enter Tryz.func18, Tryz.ntmps18
  go_wp2_with fail
  go_loopg [4, 5, 6, 7] n (fun gg s4 s5 _ _ wr => TotRel n ps R w gg s4 s5 wr)
  case atStart => exact ⟨0, 0, Nat.zero_le _, by omega, rfl, rfl, Below.refl _ _, HR.out, by decide, by decide⟩
  case round =>
    obtain ⟨i, t, hin, hgg, rfl, rfl, hbw, htot, ht1, ht2⟩ := hrel
    have HG := Lib.hid hgg
    have HB := Lib.hid hbw
    have HT := Lib.hid htot
    have hsz := hbw.size
    clear hgg hbw htot
    by_cases hlt : i < n
    · have hltz : (i : Int) < (n : Int) := by omega
      obtain ⟨b, off, hA, hbl, hcell⟩ := HAT.out (by omega)
      subst hA
      obtain ⟨y, hy⟩ := ex_at (xs := ps) (k := i) (by rw [HN.out]; exact hlt)
      obtain ⟨c1, c2⟩ := (hcell i y hy).keep HB.out hbl
      obtain ⟨_, b1, b2⟩ := HI.out.at_ hy
      have HY := Lib.hid (drop_of hy)
      have hadd := fun W => refAdd_any t y.2 ht1 ht2 b1 b2 W
      cases ho : addO t y.2 with
      | none =>
        rw [ho] at hadd
        have HADD : Hid (∀ W, Calls Tryz.prog 49 #[.int .i64 t, .int .i64 y.2] W (Ret (.tuple #[.int .i64 0, .bool false]) W)) := hadd
        have HRN : Hid (R = none) := by
          have := HT.out
          rw [HY.out, totL_none ho] at this
          exact this.symm
        obtain ⟨y1, y2⟩ := y
        simp only at c1 c2 HADD
        clear hcell hy hadd ho b1 b2 ht1 ht2
        go_wp2_with (go_at_call 49; refine (HADD.out _).mono ?_; rintro e w' ⟨rfl, rfl⟩)
        go_returns
        exact ⟨by rw [HRN.out]; rfl, HB.out⟩
      | some t' =>
        rw [ho] at hadd
        have HADD : Hid (∀ W, Calls Tryz.prog 49 #[.int .i64 t, .int .i64 y.2] W (Ret (.tuple #[.int .i64 t', .bool true]) W)) := hadd
        have HRN : Hid (totL t' (ps.drop (i + 1)) = R) := by
          have := HT.out
          rw [HY.out, totL_some ho] at this
          exact this
        have HTI := Lib.hid (addO_in ho)
        obtain ⟨y1, y2⟩ := y
        simp only at c1 c2 HADD
        clear hcell hy hadd ho b1 b2 ht1 ht2
        go_wp2_with (go_at_call 49; refine (HADD.out _).mono ?_; rintro e w' ⟨rfl, rfl⟩)
        go_roundg (n - (i + 1))
        case measure => have := HG.out; omega
        case rel => exact ⟨i + 1, t', by omega, rfl, by go_num, rfl, HB.out, HRN.out, HTI.out.1, HTI.out.2⟩
    · have hin' : i = n := by omega
      subst hin'
      have hltz : ¬ (i : Int) < (i : Int) := by omega
      have HRN : Hid (R = some t) := by
        have := HT.out
        rw [List.drop_eq_nil_of_le (by rw [HN.out]; exact Nat.le_refl _)] at this
        exact this.symm
      clear ht1 ht2
      go_wp2
      go_returns
      exact ⟨by rw [HRN.out]; rfl, HB.out⟩
end Go.Proofs.YtpfpojehcjmfnaaGreat

/-
  Why wants don't go along the chain, of the program.
  Conditions: the slices read as places, as wants; the numbers are of their kinds.
-/
set_option linter.unusedVariables false
set_option linter.unusedSimpArgs false
namespace Go.Proofs.YtpfpojehcjmfnaaGreat
open Go.RowKit

/-- Why wants don't go along the chain, as an answer. -/
def RetWhyC (f : Int) (m : Nat) (l : List Pl) (ws : List Sp) (w : World) (e : Ending) (w' : World) : Prop := ∃ E : Int, e = .returned (.int .i64 E) ∧ Why19 f m l ws E ∧ Below w.heap.size w w'

set_option maxRecDepth 100000 in
set_option maxHeartbeats 8000000 in
theorem chCheck_any (f : Int) (m : Nat) (v : Value) (l : List Pl) (vw : Value) (ws : List Sp) (w : World) (h : PlsAt w v l) (hL : LightL l) (hw : SpansAt w vw ws) (hi : IntsS ws) (hm : m < 4294967296) (hl : l.length + ws.length ≤ 1000) :
    Calls Tryz.prog 82 #[planA f m v, vw] w (RetWhyC f m l ws w) := by
  have mixed : Tryz.prog.follows .mixedOrders = true := by kernel_rfl
  have HPC := Lib.hid (fun w h => planCheck_any f m v l w h hL.wide hm)
  have HOC := Lib.hid (fun w h => check_any f vw ws w h hi)
  have HWA0 := Lib.hid (fun w h => wants_any f m v l w h (by omega))
  have HSP := Lib.hid (fun w h => splits_any f m v l w h (by omega))
  have HFR := Lib.hid (fun (hr : Right f m l) w h => free_any f m v l w h hL (shares_of hr.place hr.f64) hm (by have := hr.f2; omega) hr.f64)
  have HTO := Lib.hid (fun w h => total_any vw ws w h hi)
  have HH := Lib.hid h
  have HW0 := Lib.hid hw
  have HLB : Hid ((wantsT l).length + ws.length ≤ 100000) := Lib.hid (by rw [wantsT_length]; omega)
  have HIS := Lib.hid hi
  unfold planA at HPC HWA0 HSP HFR
  obtain ⟨A, c, rfl, _⟩ := id hw
  obtain ⟨n, hn⟩ : ∃ n, ws.length = n := ⟨_, rfl⟩
  have HN := Lib.hid hn
  rw [hn] at HW0 HOC HTO ⊢
  obtain ⟨w1, P, hw1, hP, hPl, hb1, hbox⟩ := box_any w #[.int .i64 f, .int .u32 m, v] 26
  have HB1 := Lib.hid hb1
  have HBOX := Lib.hid hbox
  obtain ⟨r0, r1, r2⟩ := three_heads hbox
  clear h hL hw hi hm hb1 hbox hn
  unfold planA
  go_enter Tryz.func82, Tryz.ntmps82
  go_wp2_with fail
  refine (HPC.out _ (HH.out.keep HB1.out)).mono ?_
  rintro e w2 ⟨E1, rfl, hE1, hiff, hb2⟩
  have HB2 := Lib.hid (HB1.out.trans (hb2.mono HB1.out.size))
  have HBX2 := Lib.hid (keep_block HBOX.out hb2)
  clear hb2 r0 r1 r2 hw1 hP
  rcases hE1 with rfl | rfl
  · have HR := Lib.hid (hiff.1 rfl)
    obtain ⟨r0, r1, r2⟩ := three_heads HBX2.out
    obtain ⟨E2, hE2⟩ : ∃ E2, chkT f ws = E2 := ⟨_, rfl⟩
    have HOC2 := Lib.hid (HOC.out _ (HW0.out.keep HB2.out))
    rw [hE2] at HOC2
    have HE2 := Lib.hid hE2
    clear hiff hE2 HOC
    go_wp2_with fail
    refine HOC2.out.mono ?_
    rintro e w3 ⟨rfl, hb3⟩
    have HB3 := Lib.hid (HB2.out.trans (hb3.mono HB2.out.size))
    have HBX3 := Lib.hid (keep_block HBX2.out hb3)
    clear hb3 r0 r1 r2
    by_cases he : E2 = 0
    · subst he
      obtain ⟨E3, hE3⟩ : ∃ E3, chkT f (wantsT l ++ ws) = E3 := ⟨_, rfl⟩
      have HE3 := Lib.hid hE3
      have HE3V : Hid (E3 = if anyB l ws = true then 11 else 0) := Lib.hid (by rw [← hE3]; exact chk_both HR.out HE2.out)
      have HII : Hid (IntsS (wantsT l ++ ws)) := Lib.hid fun s hs => by
        rcases List.mem_append.1 hs with hs | hs
        · obtain ⟨x, hx, rfl⟩ := List.mem_map.1 hs
          have h1 := isU_range (HR.out.place x hx).unit
          have h2 := (HR.out.place x hx).s1
          have h3 := (HR.out.place x hx).s2
          have h4 := HR.out.f64
          exact ⟨by show _ ≤ x.u ∧ x.u ≤ _; omega, by show _ ≤ x.s ∧ x.s ≤ _; omega⟩
        · exact HIS.out s hs
      have HS : Hid (∀ W', Below w3.heap.size w3 W' → W'.cell? ⟨P, 0, none⟩ = some (.int .i64 f) ∧ W'.cell? ⟨P, 1, none⟩ = some (.int .u32 m) ∧ W'.cell? ⟨P, 2, none⟩ = some v) := Lib.hid fun W' hb => three_heads (keep_block HBX3.out hb)
      have HWA : Hid (∀ W', Below w3.heap.size w3 W' → Calls Tryz.prog 53 #[.agg #[.int .i64 f, .int .u32 m, v]] W' (RetS (wantsT l) W')) := Lib.hid fun W' hb => HWA0.out _ (HH.out.keep (HB3.out.trans (hb.mono HB3.out.size)))
      have HW : Hid (SpansAt w3 (.slice A n c) ws) := Lib.hid (HW0.out.keep HB3.out)
      have HK2 := Lib.hid (Below.refl w3.heap.size w3)
      have hk0 := HK2.out.drew
      clear hE3 HWA0
      go_wp2_with fail
      as_aux_lemma =>
        refine wp_region_held_drew (S := fun w' => w'.cell? ⟨P, 0, none⟩ = some (.int .i64 f) ∧ w'.cell? ⟨P, 1, none⟩ = some (.int .u32 m) ∧ w'.cell? ⟨P, 2, none⟩ = some (v)) (by kernel_rfl) ?_ (fun hHeld => ?_)
        · exact HS.out _ HK2.out.drew
        refine wpAnyH_take (i := 0) (oi := ⟨some 22, _, _, _, _, _⟩) (v := ?_) rfl (by kernel_rfl) (by kernel_rfl) (by kernel_rfl) (fun _ _ _ h => h) (Or.inl ⟨by kernel_rfl, ?_⟩) (by assumption) ?_
        rotate_left
        · (intro w hSw; (try dsimp only at hSw); go_simp; try with_reducible rfl)
        (try simp only [Act.put, List.setIfInBounds_toArray, List.set_cons_zero, List.set_cons_succ])
        refine wpAnyH_take (i := 1) (oi := ⟨some 23, _, _, _, _, _⟩) (v := ?_) rfl (by kernel_rfl) (by kernel_rfl) (by kernel_rfl) (fun _ _ _ h => h) (Or.inl ⟨by kernel_rfl, ?_⟩) (by assumption) ?_
        rotate_left
        · (intro w hSw; (try dsimp only at hSw); go_simp; try with_reducible rfl)
        (try simp only [Act.put, List.setIfInBounds_toArray, List.set_cons_zero, List.set_cons_succ])
        refine wpAnyH_take (i := 2) (oi := ⟨some 24, _, _, _, _, _⟩) (v := ?_) rfl (by kernel_rfl) (by kernel_rfl) (by kernel_rfl) (fun _ _ _ h => h) (Or.inl ⟨by kernel_rfl, ?_⟩) (by assumption) ?_
        rotate_left
        · (intro w hSw; (try dsimp only at hSw); go_simp; try with_reducible rfl)
        (try simp only [Act.put, List.setIfInBounds_toArray, List.set_cons_zero, List.set_cons_succ])
        refine wpAnyH_take (i := 4) (oi := ⟨some 26, _, _, _, _, _⟩) (v := ?_) rfl (by kernel_rfl) (by kernel_rfl) (by kernel_rfl) (fun _ _ _ h => h) (Or.inl ⟨by kernel_rfl, ?_⟩) (by assumption) ?_
        rotate_left
        · (intro w hSw; (try dsimp only at hSw); go_simp; try with_reducible rfl)
        (try simp only [Act.put, List.setIfInBounds_toArray, List.set_cons_zero, List.set_cons_succ])
        refine wpAnyH_ready (rs := [3]) (by kernel_rfl) (by simp) ?_
        refine AllReadyH.cons (o := ⟨some 25, _, _, _, _, _⟩) rfl (fun K hK => ?_) AllReadyH.nil
        rw [if_pos (by kernel_rfl)]
        go_simp
        go_at_call 53; refine (HWA.out _ hk0).mono ?_; rintro en wx1 ⟨va, rfl, hva, hx1⟩
        have hk1 := hk0.trans (hx1.mono hk0.size)
        obtain ⟨A1, c1, rfl, _⟩ := id hva
        obtain ⟨n1, hn1⟩ : ∃ n1, (wantsT l).length = n1 := ⟨_, rfl⟩
        rw [hn1] at hva
        rw [hn1]
        refine hK.out _ _ ?_ (fun hHeld => ?_)
        · exact HS.out _ hk1
        clear hK K
        (try simp only [Act.put, List.setIfInBounds_toArray, List.set_cons_zero, List.set_cons_succ])
        refine wpAnyH_ready (rs := [5]) (by kernel_rfl) (by simp) ?_
        refine AllReadyH.cons (o := ⟨some 27, _, _, _, _, _⟩) rfl (fun K hK => ?_) AllReadyH.nil
        rw [if_pos (by kernel_rfl)]
        go_simp
        obtain ⟨wx2, B, hw2, hB2, hBl, hx2, hbx⟩ := box_any wx1 #[.slice A1 n1 c1, .slice A n c] 23
        rw [hw2, hB2]
        have hk2 := hk1.trans (hx2.mono hk1.size)
        refine hK.out _ _ ?_ (fun hHeld => ?_)
        · exact HS.out _ hk2
        clear hK K
        (try simp only [Act.put, List.setIfInBounds_toArray, List.set_cons_zero, List.set_cons_succ])
        clear hw2 hB2
        refine wpAnyH_ready (rs := [6]) (by kernel_rfl) (by simp) ?_
        refine AllReadyH.cons (o := ⟨some 28, _, _, _, _, _⟩) rfl (fun K hK => ?_) AllReadyH.nil
        rw [if_pos (by kernel_rfl)]
        go_simp
        go_at_call 131; refine (concat_any (.slice A1 n1 c1) (.slice A n c) (wantsT l) ws B wx2 (hva.keep hx2) (HW.out.keep hk2) hBl (two_heads hbx).1 (two_heads hbx).2 HLB.out).mono ?_; rintro en wx3 ⟨vc, rfl, hvc, hx3⟩
        have hk3 := hk2.trans (hx3.mono hk2.size)
        refine hK.out _ _ ?_ (fun hHeld => ?_)
        · exact HS.out _ hk3
        clear hK K
        (try simp only [Act.put, List.setIfInBounds_toArray, List.set_cons_zero, List.set_cons_succ])
        refine wpAnyH_ready (rs := [7]) (by kernel_rfl) (by simp) ?_
        refine AllReadyH.cons (o := ⟨some 29, _, _, _, _, _⟩) rfl (fun K hK => ?_) AllReadyH.nil
        rw [if_pos (by kernel_rfl)]
        go_simp
        go_at_call 41; refine (check_any f vc (wantsT l ++ ws) wx3 hvc HII.out).mono ?_; rintro en wx4 ⟨rfl, hx4⟩
        have hk4 := hk3.trans (hx4.mono hk3.size)
        rw [HE3.out]
        refine hK.out _ _ ?_ (fun hHeld => ?_)
        · exact HS.out _ hk4
        clear hK K
        (try simp only [Act.put, List.setIfInBounds_toArray, List.set_cons_zero, List.set_cons_succ])
        refine wpAnyH_take (i := 8) (oi := ⟨some 7, _, _, _, _, _⟩) (v := ?_) rfl (by kernel_rfl) (by kernel_rfl) (by kernel_rfl) (fun _ _ _ h => h) (Or.inl ⟨by kernel_rfl, ?_⟩) (by assumption) ?_
        rotate_left
        · (intro w hSw; (try dsimp only at hSw); go_simp; try with_reducible rfl)
        (try simp only [Act.put, List.setIfInBounds_toArray, List.set_cons_zero, List.set_cons_succ])
        refine wpAnyH_done (by kernel_rfl) ?_ _
        have HB5 := Lib.hid (HB3.out.trans (hk4.mono HB3.out.size))
        have HBX5 := Lib.hid (keep_block HBX3.out hk4)
        obtain ⟨r0, r1, r2⟩ := three_heads HBX5.out
        clear hk0 hk1 hk2 hk3 hk4 hx1 hx2 hx3 hx4 hva hvc hbx hHeld
        cases ha : anyB l ws with
        | true =>
          have e3 : E3 = 11 := by have := HE3V.out; rw [ha, if_pos rfl] at this; exact this
          have HW11 : Hid (Why19 f m l ws 11) := Lib.hid (.inl ⟨by decide, .inr (.inr (.inl ⟨HR.out, HE2.out, ha, rfl⟩))⟩)
          subst e3
          clear ha
          go_wp2_with fail
          go_ret
          exact ⟨11, rfl, HW11.out, HB5.out⟩
        | false =>
          have e3 : E3 = 0 := by have := HE3V.out; rw [ha, if_neg (by decide)] at this; exact this
          have HG : Hid (Goes f m l ws) := Lib.hid ⟨HR.out, HE2.out, ha⟩
          subst e3
          clear ha
          go_wp2_with fail
          refine (HSP.out _ (HH.out.keep HB5.out)).mono ?_
          rintro e w6 ⟨rfl, hb6⟩
          have HB6 := Lib.hid (HB5.out.trans (hb6.mono HB5.out.size))
          have HBX6 := Lib.hid (keep_block HBX5.out hb6)
          obtain ⟨sp, hsp⟩ : ∃ sp, splitsN l = sp := ⟨_, rfl⟩
          have HSPL := Lib.hid hsp
          rw [hsp]
          clear hb6 r0 r1 r2 hsp
          by_cases h0 : sp = 0
          · subst h0
            obtain ⟨r0, r1, r2⟩ := three_heads HBX6.out
            have HTO6 := Lib.hid (HTO.out _ (HW0.out.keep HB6.out))
            rw [tot_chk HE2.out] at HTO6
            have HTO7 : Hid (Calls Tryz.prog 59 #[.slice A n c] w6 (RetB (.tuple #[.int .i64 (sumS ws), .int .i64 0]) w6)) := HTO6
            obtain ⟨t, ht⟩ : ∃ t, sumS ws = t := ⟨_, rfl⟩
            have HT := Lib.hid ht
            rw [ht] at HTO7
            clear ht HTO6
            go_wp2_with fail
            refine HTO7.out.mono ?_
            rintro e w7 ⟨rfl, hb7⟩
            have HB7 := Lib.hid (HB6.out.trans (hb7.mono HB6.out.size))
            have HBX7 := Lib.hid (keep_block HBX6.out hb7)
            clear hb7 r0 r1 r2
            obtain ⟨r0, r1, r2⟩ := three_heads HBX7.out
            go_wp2_with fail
            refine (HFR.out HR.out _ (HH.out.keep HB7.out)).mono ?_
            rintro e w8 ⟨rfl, hb8⟩
            have HB8 := Lib.hid (HB7.out.trans (hb8.mono HB7.out.size))
            obtain ⟨g, hg⟩ : ∃ g, freeT f m l 16 = g := ⟨_, rfl⟩
            have HGF := Lib.hid hg
            rw [hg]
            clear hb8 r0 r1 r2 hg
            by_cases hlt : g < t
            · have hd : decide (g < t) = true := decide_eq_true hlt
              have HW12 : Hid (Why19 f m l ws 12) := Lib.hid (.inr (.inr (.inl ⟨HG.out.why, HSPL.out, by rw [HGF.out, HT.out]; exact hlt, rfl⟩)))
              go_wp2_with fail
              go_ret
              exact ⟨12, rfl, HW12.out, HB8.out⟩
            · have hd : decide (g < t) = false := decide_eq_false hlt
              have HWZ : Hid (Why19 f m l ws 0) := Lib.hid (.inr (.inr (.inr ⟨⟨HG.out, HSPL.out, by rw [HGF.out, HT.out]; omega⟩, rfl⟩)))
              go_wp2_with fail
              go_ret
              exact ⟨0, rfl, HWZ.out, HB8.out⟩
          · have hd : decide ((0 : Int) < (sp : Int)) = true := decide_eq_true (by omega)
            have HW15 : Hid (Why19 f m l ws 15) := Lib.hid (.inr (.inl ⟨HG.out.why, by rw [HSPL.out]; exact h0, rfl⟩))
            go_wp2_with fail
            go_ret
            exact ⟨15, rfl, HW15.out, HB6.out⟩
    · have HWE : Hid (Why19 f m l ws E2) := Lib.hid (.inl ⟨he, .inr (.inl ⟨HR.out, by rw [HE2.out]; exact he, HE2.out.symm⟩)⟩)
      have hb0 : (E2 != 0) = true := by simpa using he
      clear he
      go_wp2_with fail
      go_ret
      exact ⟨E2, rfl, HWE.out, HB3.out⟩
  · have HW30 : Hid (Why19 f m l ws 30) := Lib.hid (.inl ⟨by decide, .inl ⟨fun h => by have := hiff.2 h; omega, rfl⟩⟩)
    clear hiff
    go_wp2_with fail
    go_ret
    exact ⟨30, rfl, HW30.out, HB2.out⟩
end Go.Proofs.YtpfpojehcjmfnaaGreat

/-
  Wants along the chain, of the program.
  Conditions: the slices read as places, as wants; the numbers are of their kinds; both are short.
-/
set_option linter.unusedVariables false
set_option linter.unusedSimpArgs false
namespace Go.Proofs.YtpfpojehcjmfnaaGreat
open Go.RowKit

theorem Tryz.sizeCh : (Tryz.prog.info? 133).map (·.size) = some 4 := by kernel_rfl
/-- One want along the chain, as the program lays it. -/
theorem chS_place {n m a : Nat} {l : List Pl} {y : Sp} (h : 1 ≤ y.2) : chS n m (l, a) y = (addU l (placeX n a (rmN n m l) y.1 y.2.toNat), placeT n a (rmN n m l) y.2.toNat) := by
  have hs : ((y.2.toNat : Nat) : Int) = y.2 := by omega
  by_cases hc : y.2.toNat ≤ rmN n m l (curN (rmN n m l))
  · rw [chS_whole hc]
    unfold placeX placeT
    rw [if_pos hc, if_pos hc, hs]
  · rw [chS_split hc]
    unfold placeX placeT splP
    rw [if_neg hc, if_neg hc, hs, Int.toNat_natCast]
theorem rm_out {f : Int} {m : Nat} {l : List Pl} {c : Nat} (h : 16 ≤ c) : rmN f m l c = 0 := by
  unfold rmN roomN
  cases hh : hasC m (c : Int) with
  | true => have := hasC_range hh; omega
  | false => rfl
/-- Some wants behind: the plan so far in block F, what is left in C and R. -/
structure SpSt (n m base F C R : Nat) (w6 wr : World) (v : Value) (l : List Pl) (core a : Nat) : Prop where
  apart : Apart (fun b => b = F ∨ b = C ∨ b = R) w6 wr
  box : wr.heap[F]? = some (.cells #[.int .i64 n, .int .u32 m, v] 26 (0, 0))
  pls : PlsIn (fun b => base ≤ b ∧ b ≠ F ∧ b ≠ C ∧ b ≠ R) wr v l
  ch : ChAt wr C R n (fun i => (rmN n m l i : Int)) core a
  zero : ∀ i, i < core → rmN n m l i = 0
  fc : F ≠ C ∧ F ≠ R
theorem SpSt.keep {n m base F C R : Nat} {w6 wr W : World} {v : Value} {l : List Pl} {core a : Nat} (h : SpSt n m base F C R w6 wr v l core a) (hb : Below wr.heap.size wr W) : SpSt n m base F C R w6 W v l core a :=
  ⟨h.apart.trans (Apart.of_below (F := fun _ => False) hb) (fun x _ e => e.elim), keep_block h.box hb, h.pls.keep hb, h.ch.keep hb, h.zero, h.fc⟩
theorem SpSt.pls8 {n m base F C R : Nat} {w6 w7 w8 : World} {v : Value} {l : List Pl} {core a : Nat} (h : SpSt n m base F C R w6 w7 v l core a) (ha : Apart (fun b => b = C ∨ b = R) w7.drew w8) : PlsAt w8 v l :=
  (h.pls.keepF (W' := w8) ha.size fun b hb hF => ha.block b hb fun e => by rcases e with e | e; exact hF.2.2.1 e; exact hF.2.2.2 e).any
theorem SpSt.box9 {n m base F C R : Nat} {w6 w7 w8 w9 : World} {v : Value} {l : List Pl} {core a : Nat} (h : SpSt n m base F C R w6 w7 v l core a) (ha : Apart (fun b => b = C ∨ b = R) w7.drew w8) (hb : Below w8.heap.size w8 w9) :
    w9.heap[F]? = some (.cells #[.int .i64 n, .int .u32 m, v] 26 (0, 0)) :=
  keep_block ((ha.block F (heap_lt h.box) fun e => by rcases e with e | e; exact h.fc.1 e; exact h.fc.2 e).trans h.box) hb
theorem SpSt.put {n m base F C R : Nat} {w6 w7 w8 w9 : World} {v v9 : Value} {l l9 : List Pl} {core a core9 a9 : Nat} {r9 : Nat → Nat} (h : SpSt n m base F C R w6 w7 v l core a) (ha : Apart (fun b => b = C ∨ b = R) w7.drew w8) (hc : ChAt w8 C R n (fun i => (r9 i : Int)) core9 a9) (hz : ∀ i, i < core9 → r9 i = 0)
    (hb : Below w8.heap.size w8 w9) (hp : PlsIn (fun b => w8.heap.size ≤ b) w9 v9 l9) (hl : base ≤ w7.heap.size ∧ ∀ i, i < 16 → rmN n m l9 i = r9 i) : SpSt n m base F C R w6 (w9.setRow F #[.int .i64 n, .int .u32 m, v9]) v9 l9 core9 a9 := by
  obtain ⟨hl1, hl3⟩ := hl
  have hF := h.box9 ha hb
  have hs : w7.heap.size ≤ w8.heap.size := ha.size
  have hlt := heap_lt h.box
  have hcl := heap_lt h.ch.box
  have hrl := heap_lt h.ch.row
  have hc9 := hc.keep hb
  refine ⟨?_, setRow_heap _ _ _ _ _ _ hF, ?_, ?_, fun i hi => (by
    rcases Nat.lt_or_ge i 16 with h16 | h16
    · rw [hl3 i h16]; exact hz i hi
    · exact rm_out h16), h.fc⟩
  · refine ((h.apart.trans (F' := fun b => b = C ∨ b = R) (⟨ha.os, ha.tape, ha.output, ha.size, ha.block⟩ : Apart (fun b => b = C ∨ b = R) w7 w8) fun _ _ e => .inr e).trans (Apart.of_below (F := fun _ => False) hb) fun _ _ e => e.elim).trans (F' := fun b => b = F) ⟨rfl, rfl, rfl, by simp, fun k _ hne => setRow_other _ _ _ _ hne⟩ fun _ _ e => .inl e
  · exact (PlsIn.setRow hp (N := F) (.inl (by omega))).mono fun b _ hb' => ⟨by omega, by omega, by omega, by omega⟩
  · exact ChAt.congr (g := fun i => (r9 i : Int)) ⟨(setRow_other _ _ _ _ (Ne.symm h.fc.1)).trans hc9.box, (setRow_other _ _ _ _ (Ne.symm h.fc.2)).trans hc9.row, hc9.ne⟩ fun i hi => by rw [hl3 i hi]
/-- What Split answers. -/
def RetSplit (f : Int) (m : Nat) (l : List Pl) (ws : List Sp) (w : World) (e : Ending) (w' : World) : Prop := ∃ E : Int, Why19 f m l ws E ∧ Below w.heap.size w w' ∧
  ((E = 0 ∧ ∃ v, e = .returned (.tuple #[planA f m v, .int .i64 0]) ∧ PlsIn (fun b => w.heap.size ≤ b) w' v (chT f m l ws).1) ∨
   (E ≠ 0 ∧ e = .returned (.tuple #[planA 0 0 (.slice none 0 0), .int .i64 E])))
theorem dropT_zero {f : Int} {m : Nat} {l : List Pl} (h : Right f m l) : dropT l 0 = l := drop_absent fun x hx => by
  have := isU_range (h.place x hx).unit
  omega

set_option maxRecDepth 100000 in
set_option maxHeartbeats 8000000 in
theorem split_any (f : Int) (m : Nat) (v : Value) (l : List Pl) (vw : Value) (ws : List Sp) (w : World) (h : PlsAt w v l) (hL : LightL l) (hw : SpansAt w vw ws) (hi : IntsS ws) (hm : m < 4294967296) (hl : l.length + ws.length ≤ 300) :
    Calls Tryz.prog 40 #[planA f m v, vw] w (RetSplit f m l ws w) := by
  have mixed : Tryz.prog.follows .mixedOrders = true := by kernel_rfl
  have HCK := Lib.hid (fun w h hw => chCheck_any f m v l vw ws w h hL hw hi hm (by omega))
  have HRO0 := Lib.hid (fun w h => chRooms_any f m v l w h hL hm)
  have HDR := Lib.hid (fun w h => planDrop_any f m v l 0 w h (by omega) (fun x hx => (hL.ok x hx).2))
  have HOK := Lib.hid hL.ok
  have HH := Lib.hid h
  have HW := Lib.hid hw
  have HLL := Lib.hid hl
  unfold planA at HCK HDR HRO0
  unfold RetRow planA at HDR
  obtain ⟨w1, P, hw1, hP, hPl, hb1, hbox⟩ := box_any w #[.int .i64 f, .int .u32 m, v] 26
  obtain ⟨w2, Q, hw2, hQ, hQl, hb2, hrox⟩ := box_any w1 #[.int .i64 0, .int .u32 0, .slice none 0 0] 26
  have HB2 := Lib.hid (hb1.trans (hb2.mono hb1.size))
  have HPB := Lib.hid (keep_block hbox hb2)
  have HQB := Lib.hid hrox
  have HLT := Lib.hid (show w.heap.size ≤ P ∧ P < Q ∧ Q < w2.heap.size by have := hb1.size; omega)
  obtain ⟨p0, p1, p2⟩ := three_heads HPB.out
  clear h hL hw hi hl hb1 hb2 hbox hrox
  unfold planA
  go_enter Tryz.func40, Tryz.ntmps40
  go_wp2_with fail
  refine (HCK.out _ (HH.out.keep HB2.out) (HW.out.keep HB2.out)).mono ?_
  rintro e w3 ⟨E, rfl, hwhy, hb3⟩
  have HWH := Lib.hid hwhy
  have HB3 := Lib.hid (HB2.out.trans (hb3.mono HB2.out.size))
  have HPB3 := Lib.hid (keep_block HPB.out hb3)
  have HQB3 := Lib.hid (keep_block HQB.out hb3)
  clear hb3 hwhy p0 p1 p2 hw1 hP hw2 hQ
  obtain ⟨p0, p1, p2⟩ := three_heads HPB3.out
  by_cases he : E = 0
  · subst he
    have hg := HWH.out.zero
    have HR := Lib.hid hg.goes.right
    obtain ⟨n, rfl⟩ : ∃ n : Nat, f = n := ⟨f.toNat, by have := HR.out.f2; omega⟩
    have HS : Hid (∀ W', Below w3.heap.size w3 W' → W'.cell? ⟨P, 0, none⟩ = some (.int .i64 n) ∧ W'.cell? ⟨P, 1, none⟩ = some (.int .u32 m) ∧ W'.cell? ⟨P, 2, none⟩ = some v) := Lib.hid fun W' hb => three_heads (keep_block HPB3.out hb)
    have HK3 := Lib.hid (Below.refl w3.heap.size w3)
    have HRO : Hid (∀ W', Below w3.heap.size w3 W' → Calls Tryz.prog 55 #[.agg #[.int .i64 n, .int .u32 m, v]] W' (RetRooms n m l W')) := Lib.hid fun W' hb => HRO0.out _ (HH.out.keep (HB3.out.trans (hb.mono HB3.out.size)))
    have HG := Lib.hid hg
    clear hg HRO0
    go_upto_region 4 with fail
    go_cut [7] from 18 to 22 (fun s7 wx => ∃ C R : Nat, s7 = .pointer (some ⟨C, 0, none⟩) ∧ ChAt wx C R n (fun i => roomN n m l (i : Int)) 0 0 ∧ w3.heap.size ≤ C ∧ w3.heap.size ≤ R ∧ Below w3.heap.size w3 wx)
    case first =>
      as_aux_lemma =>
        refine wp_region_held_drew (S := fun w' => w'.cell? ⟨P, 0, none⟩ = some (.int .i64 n) ∧ w'.cell? ⟨P, 1, none⟩ = some (.int .u32 m) ∧ w'.cell? ⟨P, 2, none⟩ = some v) (by kernel_rfl) ?_ (fun hHeld => ?_)
        · exact HS.out _ HK3.out.drew
        refine wpAnyH_take (i := 0) (oi := ⟨some 18, _, _, _, _, _⟩) (v := ?_) rfl (by kernel_rfl) (by kernel_rfl) (by kernel_rfl) (fun _ _ _ h => h) (Or.inl ⟨by kernel_rfl, ?_⟩) (by assumption) ?_
        rotate_left
        · (intro w hSw; (try dsimp only at hSw); go_simp; try with_reducible rfl)
        (try simp only [Act.put, List.setIfInBounds_toArray, List.set_cons_zero, List.set_cons_succ])
        refine wpAnyH_take (i := 1) (oi := ⟨some 19, _, _, _, _, _⟩) (v := ?_) rfl (by kernel_rfl) (by kernel_rfl) (by kernel_rfl) (fun _ _ _ h => h) (Or.inl ⟨by kernel_rfl, ?_⟩) (by assumption) ?_
        rotate_left
        · (intro w hSw; (try dsimp only at hSw); go_simp; try with_reducible rfl)
        (try simp only [Act.put, List.setIfInBounds_toArray, List.set_cons_zero, List.set_cons_succ])
        refine wpAnyH_take (i := 2) (oi := ⟨some 20, _, _, _, _, _⟩) (v := ?_) rfl (by kernel_rfl) (by kernel_rfl) (by kernel_rfl) (fun _ _ _ h => h) (Or.inl ⟨by kernel_rfl, ?_⟩) (by assumption) ?_
        rotate_left
        · (intro w hSw; (try dsimp only at hSw); go_simp; try with_reducible rfl)
        (try simp only [Act.put, List.setIfInBounds_toArray, List.set_cons_zero, List.set_cons_succ])
        refine wpAnyH_ready (rs := [3, 5]) (by kernel_rfl) (by simp) ?_
        refine AllReadyH.cons (o := ⟨some 21, _, _, _, _, _⟩) rfl (fun K hK => ?_) (AllReadyH.cons (o := ⟨some 7, _, _, _, _, _⟩) rfl (fun K hK => ?_) AllReadyH.nil)
        · rw [if_pos (by kernel_rfl)]
          go_simp
          go_at_call 55; refine (HRO.out _ HK3.out.drew).mono ?_; rintro en wx1 ⟨hx1, hro⟩
          obtain ⟨_, R, rfl, hRl, hrow⟩ := hro.resolve_right fun h => h.1 HR.out
          have hk1 := HK3.out.drew.trans (hx1.mono HK3.out.drew.size)
          refine hK.out _ _ ?_ (fun hHeld => ?_)
          · exact HS.out _ hk1
          clear hK K
          (try simp only [Act.put, List.setIfInBounds_toArray, List.set_cons_zero, List.set_cons_succ])
          refine wpAnyH_take (i := 4) (oi := ⟨some 22, _, _, _, _, _⟩) (v := ?_) rfl (by kernel_rfl) (by kernel_rfl) (by kernel_rfl) (fun _ _ _ h => h) (Or.inl ⟨by kernel_rfl, ?_⟩) (by assumption) ?_
          rotate_left
          · (intro w hSw; (try dsimp only at hSw); go_simp; try with_reducible rfl)
          (try simp only [Act.put, List.setIfInBounds_toArray, List.set_cons_zero, List.set_cons_succ])
          refine wpAnyH_ready (rs := [5]) (by kernel_rfl) (by simp) ?_
          refine AllReadyH.cons (o := ⟨some 7, _, _, _, _, _⟩) rfl (fun K hK => ?_) AllReadyH.nil
          obtain ⟨wx2, C, hwC, hC, hCl, hx2, hcb⟩ := box_any wx1 #[.int .i64 0, .slice none 0 0, .int .i64 0, .int .i64 0] 133
          rw [if_pos (by kernel_rfl)]
          go_simp
          have hk2 := hk1.trans (hx2.mono hk1.size)
          refine hK.out _ _ ?_ (fun hHeld => ?_)
          · exact HS.out _ hk2
          clear hK K
          (try simp only [Act.put, List.setIfInBounds_toArray, List.set_cons_zero, List.set_cons_succ])
          clear hwC
          have hcl : C = wx1.heap.size := hC.symm
          clear hC
          have hne : R ≠ C := by have := heap_lt hrow; omega
          have hrow := keep_block hrow hx2
          have hClo : w3.heap.size ≤ C := by have := hk1.size; omega
          have hRlo : w3.heap.size ≤ R := hRl
          refine wpAnyH_ready (rs := [6]) (by kernel_rfl) (by simp) ?_
          refine AllReadyH.cons (o := ⟨none, _, _, _, _, _⟩) rfl (fun K hK => ?_) AllReadyH.nil
          refine step_store_row16 rfl _ _ _ rfl C #[.int .i64 n, .slice (some ⟨R, 0, none⟩) 16 16, .int .i64 0, .int .i64 0] (by simp [Act.eval, Act.put]) (by simp [Act.eval, Act.put]) 133 _ hcb Tryz.sizeCh rfl (by simp [Value.oneCell']) ?_
          have hkz := below_row hk2 hClo #[.int .i64 n, .slice (some ⟨R, 0, none⟩) 16 16, .int .i64 0, .int .i64 0]
          refine hK.out _ _ ?_ (fun hHeld => ?_)
          · exact HS.out _ hkz
          clear hK K
          (try simp only [Act.put, List.setIfInBounds_toArray, List.set_cons_zero, List.set_cons_succ])
          refine wpAnyH_done (by kernel_rfl) ?_ _
          go_wp2_with fail
          go_meet
          exact ⟨C, R, rfl, ⟨setRow_heap _ _ _ _ _ _ hcb, (setRow_other _ _ _ _ hne).trans hrow, hne⟩, hClo, hRlo, hkz⟩
        · obtain ⟨wx1, C, hwC, hC, hCl, hx1, hcb⟩ := box_any w3.drew #[.int .i64 0, .slice none 0 0, .int .i64 0, .int .i64 0] 133
          rw [if_pos (by kernel_rfl)]
          go_simp
          have hk1 := HK3.out.drew.trans (hx1.mono HK3.out.drew.size)
          refine hK.out _ _ ?_ (fun hHeld => ?_)
          · exact HS.out _ hk1
          clear hK K
          (try simp only [Act.put, List.setIfInBounds_toArray, List.set_cons_zero, List.set_cons_succ])
          clear hwC
          have hClo : w3.heap.size ≤ C := by rw [← hC]; exact Nat.le_refl _
          clear hC
          refine wpAnyH_ready (rs := [3]) (by kernel_rfl) (by simp) ?_
          refine AllReadyH.cons (o := ⟨some 21, _, _, _, _, _⟩) rfl (fun K hK => ?_) AllReadyH.nil
          rw [if_pos (by kernel_rfl)]
          go_simp
          go_at_call 55; refine (HRO.out _ hk1).mono ?_; rintro en wx2 ⟨hx2, hro⟩
          obtain ⟨_, R, rfl, hRl, hrow⟩ := hro.resolve_right fun h => h.1 HR.out
          have hk2 := hk1.trans (hx2.mono hk1.size)
          refine hK.out _ _ ?_ (fun hHeld => ?_)
          · exact HS.out _ hk2
          clear hK K
          (try simp only [Act.put, List.setIfInBounds_toArray, List.set_cons_zero, List.set_cons_succ])
          refine wpAnyH_take (i := 4) (oi := ⟨some 22, _, _, _, _, _⟩) (v := ?_) rfl (by kernel_rfl) (by kernel_rfl) (by kernel_rfl) (fun _ _ _ h => h) (Or.inl ⟨by kernel_rfl, ?_⟩) (by assumption) ?_
          rotate_left
          · (intro w hSw; (try dsimp only at hSw); go_simp; try with_reducible rfl)
          (try simp only [Act.put, List.setIfInBounds_toArray, List.set_cons_zero, List.set_cons_succ])
          have hne : R ≠ C := by omega
          have hRlo : w3.heap.size ≤ R := by have := hk1.size; omega
          have hcb := keep_block hcb hx2
          refine wpAnyH_ready (rs := [6]) (by kernel_rfl) (by simp) ?_
          refine AllReadyH.cons (o := ⟨none, _, _, _, _, _⟩) rfl (fun K hK => ?_) AllReadyH.nil
          refine step_store_row16 rfl _ _ _ rfl C #[.int .i64 n, .slice (some ⟨R, 0, none⟩) 16 16, .int .i64 0, .int .i64 0] (by simp [Act.eval, Act.put]) (by simp [Act.eval, Act.put]) 133 _ hcb Tryz.sizeCh rfl (by simp [Value.oneCell']) ?_
          have hkz := below_row hk2 hClo #[.int .i64 n, .slice (some ⟨R, 0, none⟩) 16 16, .int .i64 0, .int .i64 0]
          refine hK.out _ _ ?_ (fun hHeld => ?_)
          · exact HS.out _ hkz
          clear hK K
          (try simp only [Act.put, List.setIfInBounds_toArray, List.set_cons_zero, List.set_cons_succ])
          refine wpAnyH_done (by kernel_rfl) ?_ _
          go_wp2_with fail
          go_meet
          exact ⟨C, R, rfl, ⟨setRow_heap _ _ _ _ _ _ hcb, (setRow_other _ _ _ _ hne).trans hrow, hne⟩, hClo, hRlo, hkz⟩
    case rest =>
      obtain ⟨C, R, rfl, hch, hCl, hRl, hb4⟩ := hcut
      have hdz := dropT_zero HR.out
      rw [hdz] at HDR
      have HB4 := Lib.hid (HB3.out.trans (hb4.mono HB3.out.size))
      have HCH := Lib.hid hch
      have HQB4 := Lib.hid (keep_block HQB3.out hb4)
      have HCR := Lib.hid (And.intro hCl hRl)
      obtain ⟨q0, q1, q2⟩ := HS.out _ hb4
      clear p0 p1 p2 hch hCl hRl hb4 hdz
      go_wp2_with fail
      refine (HDR.out _ (HH.out.keep HB4.out)).mono ?_
      rintro e w5 ⟨v5, ls, rfl, hls, hrow, hb5⟩
      have HB5 := Lib.hid (HB4.out.trans (hb5.mono HB4.out.size))
      have hpl5 := pls_of_own hrow.own hrow.pcs
      rw [hls] at hpl5
      have HPL5 := Lib.hid (hpl5.mono (G := fun b => wc.heap.size ≤ b) fun b _ hF => hF.elim (fun h => h.1) id)
      have HQB5 := Lib.hid (keep_block HQB4.out hb5)
      have HCH5 := Lib.hid (HCH.out.keep hb5)
      have hs5 := hb5.size
      obtain ⟨A5, c5, hv5⟩ := own_form hrow.own
      obtain ⟨n5, hn5⟩ : ∃ n5, ls.length = n5 := ⟨_, rfl⟩
      rw [hn5] at hv5
      subst hv5
      clear hls hrow hb5 hpl5 hn5 q0 q1 q2
      obtain ⟨wz, F, hwz, hF, hFl, hbz, hfz⟩ := box_any w5 #[.int .i64 0, .int .u32 0, .slice none 0 0] 26
      have HFZ := Lib.hid hfz
      obtain ⟨w6, hw6⟩ : ∃ w6, wz.setRow F #[.int .i64 n, .int .u32 m, .slice A5 n5 c5] = w6 := ⟨_, rfl⟩
      have hb6 : Below w5.heap.size w5 w6 := by rw [← hw6]; exact below_row hbz (by omega) _
      have HB6 := Lib.hid (HB5.out.trans (hb6.mono HB5.out.size))
      have HFB6 : Hid (w6.heap[F]? = some (.cells #[.int .i64 n, .int .u32 m, .slice A5 n5 c5] 26 (0, 0))) := Lib.hid (by rw [← hw6]; exact setRow_heap _ _ _ _ _ _ hfz)
      have HQB6 := Lib.hid (keep_block HQB5.out hb6)
      have hCw := heap_lt HCH.out.box
      have hRw := heap_lt HCH.out.row
      have hQw := heap_lt HQB4.out
      have hF6 := heap_lt HFB6.out
      have h6s := hb6.size
      have h3s := HB4.out.size
      have HLT6 := Lib.hid (show C < F ∧ R < F ∧ Q < F ∧ F < w6.heap.size ∧ Q < w3.heap.size ∧ w3.heap.size ≤ F ∧ wc.heap.size ≤ F by have := heap_lt HQB3.out; have := HCR.out; omega)
      have HST0 : Hid (SpSt n m wc.heap.size F C R w6 w6 (.slice A5 n5 c5) (chT n m l (ws.take 0)).1 0 (chT n m l (ws.take 0)).2) := Lib.hid (by
        rw [List.take_zero]
        exact ⟨Apart.refl _ _, HFB6.out, ((HPL5.out.mono (G := fun b => wc.heap.size ≤ b ∧ b ≠ F ∧ b ≠ C ∧ b ≠ R) fun b hb h => ⟨h, by omega, by omega, by omega⟩).keep hb6), (HCH5.out.keep hb6).congr fun i hi => ((HR.out.rm hi).1).symm, fun i hi => absurd hi (Nat.not_lt_zero _), by omega, by omega⟩)
      obtain ⟨Aw, cw, rfl, hcw1, hcw3, hcw2, hat⟩ := HW.out
      have HAT := Lib.hid hat
      obtain ⟨k1, hk1⟩ : ∃ k1, ws.length = k1 := ⟨_, rfl⟩
      have HNW := Lib.hid hk1
      rw [hk1] at HAT HW hcw1 hcw3 ⊢
      clear hb6 hbz hfz hs5 hCw hRw hQw hF6 h6s h3s hat hk1 hcw2 HCK
      go_wp2_with (refine wpList_store_row rfl _ _ _ rfl F #[.int .i64 n, .int .u32 m, .slice A5 n5 c5] rfl rfl 26 _ HFZ.out (Tryz.sizePn _ _ _) rfl (one3 _ _ _ _ _) ?_)
      clear hw6 hwz hF
      go_loopg [27] k1 (fun gg s27 wr => ∃ (k core : Nat) (vp : Value), k ≤ k1 ∧ gg = k1 - k ∧ s27 = .int .i64 k ∧ SpSt n m wc.heap.size F C R w6 wr vp (chT n m l (ws.take k)).1 core (chT n m l (ws.take k)).2)
      case atStart => exact ⟨0, 0, _, Nat.zero_le _, by omega, rfl, HST0.out⟩
      case round =>
        obtain ⟨k, core, vp, hk, hg, rfl, hst⟩ := hrel
        have HGS := Lib.hid hg
        by_cases hlt : k < k1
        · have hltz : (k : Int) < (k1 : Int) := by omega
          have hk0 : (0 : Int) ≤ (k : Int) := by omega
          obtain ⟨y, hy⟩ := ex_at (xs := ws) (k := k) (by rw [HNW.out]; exact hlt)
          have hinv := HG.out.inv k (by have := HNW.out; omega)
          have hlen := hinv.len
          rw [List.length_take, Nat.min_eq_left (by have := HNW.out; omega)] at hlen
          have hwok := (WOk.of_chk HG.out.goes.chk).2
          obtain ⟨hyu, hy1, hy2⟩ := hwok.all y (List.mem_of_getElem? hy)
          have hstep := chT_take (f := n) (m := m) (l := l) hy
          have hnx := HG.out.inv (k + 1) (by have := HNW.out; omega)
          have hfr := hinv.free
          have hroom := HG.out.room
          have hsle := sum_take_le ws (k + 1) fun v hv => by have := hwok.all v hv; omega
          rw [List.take_add_one, hy, Option.toList_some, sumS_append, show sumS [y] = y.2 by simp [sumS]] at hsle
          have htk : ws.take (k + 1) = ws.take k ++ [y] := by rw [List.take_add_one, hy, Option.toList_some]
          have hwf : WOk n (ws.take k ++ [y]) := by
            rw [← htk]
            exact WOk.front (b := ws.drop (k + 1)) (by rw [List.take_append_drop]; exact hwok)
          have hny : ∀ z ∈ (chT n m l (ws.take k)).1, z.u ≠ y.1 := fun z hz => by
            rcases hinv.units z hz with h | ⟨v, hv, he⟩
            · exact anyB_no HG.out.goes.none z h y (List.mem_of_getElem? hy)
            · rw [← he]
              exact hwf.last v hv
          obtain ⟨b0, off, hA, hbl, hcell⟩ := HAT.out (by omega)
          subst hA
          obtain ⟨c1, c2⟩ := (hcell k y hy).keep HB6.out hbl
          have hb0 : b0 < w6.heap.size := Nat.lt_of_lt_of_le hbl HB6.out.size
          have hb0n : ¬ (b0 = F ∨ b0 = C ∨ b0 = R) := by have h1 := HLT6.out; have h2 := HCR.out; have h3 := HB3.out.size; omega
          have hblk := hst.apart.block b0 hb0 hb0n
          have c1 := (cell_same hblk (off + k * 2)).trans c1
          have c2 := (cell_same hblk (off + k * 2 + 1)).trans c2
          obtain ⟨w7, N, hw7, hN, hNl, hb7, hnb⟩ := box_any wr #[.int .i64 y.1, .int .i64 y.2] 52
          have hst7 := hst.keep hb7
          obtain ⟨L, a, hLa⟩ : ∃ L a, chT n m l (ws.take k) = (L, a) := ⟨_, _, rfl⟩
          rw [hLa] at hinv hlen hstep hfr hst hst7 hny
          simp only at hinv hlen hfr hst hst7 hny
          have hrdy : Ready n m L a := hinv.ready
          have hRL := hrdy.right
          have hta := hrdy.tick
          rw [Int.toNat_natCast] at hta
          have hf2 := hRL.f2
          have hf64 := hRL.f64
          obtain ⟨s, hs⟩ : ∃ s, y.2.toNat = s := ⟨_, rfl⟩
          have hsy : (s : Int) = y.2 := by omega
          obtain ⟨r, hr⟩ : ∃ r, rmN n m L = r := ⟨_, rfl⟩
          have hsum : s ≤ sumTo r 16 := by
            have q := rm_free hRL 16 (Nat.le_refl _)
            rw [hr] at q
            omega
          have hrn : ∀ i, i < 16 → r i ≤ n := fun i hi => by
            have := (hRL.rm hi).2.1
            rw [hr, Int.toNat_natCast] at this
            exact this
          have hch7 : ChAt w7.drew C R n (fun i => (r i : Int)) core a := by rw [← hr]; exact hst7.ch.drew
          have HPLC : Hid (Calls Tryz.prog 83 #[.pointer (some ⟨C, 0, none⟩), .agg #[.int .i64 y.1, .int .i64 y.2]] w7.drew (RetPlace C R n a r y.1 s w7.drew)) := Lib.hid (by
            have h := chPlace_any w7.drew C R n a core r y.1 s hch7 (by omega) (by omega) hta hrn (fun i hi => by rw [← hr]; exact hst7.zero i hi) (by omega) (by omega) hsum
            rw [hsy] at h
            exact h)
          obtain ⟨xp, hxp⟩ : ∃ xp, placeX n a r y.1 s = xp := ⟨_, rfl⟩
          have HXD := Lib.hid hxp
          have hstep2 : chT n m l (ws.take (k + 1)) = (addU L xp, placeT n a r s) := by
            rw [hstep, chS_place hy1, hr, hs, hxp]
          have HS1 := Lib.hid hstep2
          have hnL : ∀ i, i < 16 → rmN n m (addU L xp) i = placeR r s i := fun i hi => by
            rw [← hxp]
            by_cases hc : s ≤ r (curN r)
            · have hw := (hrdy.whole (w := y) hny hyu hy1 hy2 (by rw [hs, hr]; exact hc)).2 i hi
              rw [hr, hs] at hw
              unfold placeX placeR
              rw [if_pos hc, if_pos hc, hsy]
              exact hw
            · have hw := (hrdy.split (w := y) hny hyu hy1 hy2 (by rw [hs, hr]; exact hc) (by rw [hs, hr]; exact hsum)).2.1 i hi
              unfold splP at hw
              rw [hr, hs, Int.toNat_natCast] at hw
              unfold placeX placeR
              rw [if_neg hc, if_neg hc, hsy]
              exact hw
          have HNL : Hid (wc.heap.size ≤ w7.heap.size ∧ ∀ i, i < 16 → rmN n m (putPl (dropT L xp.u) xp (posU (dropT L xp.u) xp.u)) i = placeR r s i) := Lib.hid ⟨by have h1 := HLT6.out; have h2 := hst7.apart.size; omega, hnL⟩
          have HLE := Lib.hid (show L.length ≤ 999 by have := HLL.out; have := HNW.out; omega)
          have HPO : Hid (∀ z ∈ L, z.ps.length ≤ 1000) := Lib.hid fun z hz => (hinv.ok HOK.out z hz).2
          have HXO : Hid (xp.ps.length ≤ 1000) := Lib.hid (by
            rw [← hxp]
            unfold placeX
            split
            · simp
            · exact Nat.le_trans pcsA_few (by omega))
          have HAS := Lib.hid (dropT_asc hRL.pairs xp.u)
          have hNC : ¬ (N = C ∨ N = R) ∧ N ≠ F := by have h1 := heap_lt hst.ch.box; have h2 := heap_lt hst.ch.row; have h3 := heap_lt hst.box; omega
          have HSN : Hid (∀ W', Apart (fun b => b = C ∨ b = R) w7.drew W' → W'.cell? ⟨N, 0, none⟩ = some (.int .i64 y.1) ∧ W'.cell? ⟨N, 1, none⟩ = some (.int .i64 y.2)) := Lib.hid fun W' ha => two_heads ((ha.block N (heap_lt hnb) hNC.1).trans hnb)
          have HSF : Hid (∀ W', Apart (fun b => b = C ∨ b = R) w7.drew W' → W'.cell? ⟨F, 0, none⟩ = some (.int .i64 n) ∧ W'.cell? ⟨F, 1, none⟩ = some (.int .u32 m) ∧ W'.cell? ⟨F, 2, none⟩ = some vp) := Lib.hid fun W' ha => three_heads ((ha.block F (heap_lt hst7.box) fun e => by rcases e with e | e; exact hst7.fc.1 e; exact hst7.fc.2 e).trans hst7.box)
          have HSS : Hid (∀ W' cs, Apart (fun b => b = C ∨ b = R) w7.drew W' → (W'.setRow F cs).cell? ⟨N, 0, none⟩ = some (.int .i64 y.1) ∧ (W'.setRow F cs).cell? ⟨N, 1, none⟩ = some (.int .i64 y.2)) := Lib.hid fun W' cs ha => two_heads ((setRow_other _ _ _ _ hNC.2).trans ((ha.block N (heap_lt hnb) hNC.1).trans hnb))
          have hax0 : Apart (fun b => b = C ∨ b = R) w7.drew w7.drew := Apart.refl _ _
          have HST7 := Lib.hid hst7
          obtain ⟨n0, n1⟩ := two_heads hnb
          clear hg hst hst7 hinv hlen hstep hnx hfr hroom hsle htk hwf hny hwok hcell hblk hb7 hnb hrdy hRL hta hrn hch7 hxp hstep2 hnL hr hs hsum hLa hNC hb0n hyu hf2 hf64
          go_wp2_with fail
          refine wp_region_N (S1 := fun w' => w'.cell? ⟨N, 0, none⟩ = some (.int .i64 y.1) ∧ w'.cell? ⟨N, 1, none⟩ = some (.int .i64 y.2)) (S2 := fun w' => w'.cell? ⟨F, 0, none⟩ = some (.int .i64 n) ∧ w'.cell? ⟨F, 1, none⟩ = some (.int .u32 m) ∧ w'.cell? ⟨F, 2, none⟩ = some vp) (N := fun i => i != 4) (by kernel_rfl) ?_
          change wpAnyN _ _ _ _ _ _ _ 5 (Array.replicate 5 false) _ _
          refine wpAnyN_take true (i := 0) (oi := ⟨some 31, _, _, _, _, _⟩) (v := ?_) rfl (by kernel_rfl) (by kernel_rfl) (by kernel_rfl) (fun _ _ _ h => h) (Or.inl ⟨by kernel_rfl, ?_⟩) ⟨HSN.out _ hax0, fun _ => HSF.out _ hax0⟩ ?_
          rotate_left
          · (intro w hSw; obtain ⟨hSa, hSb⟩ := hSw; have hSc := hSb rfl; clear hSb; (try dsimp only at hSa hSc); go_simp; try with_reducible rfl)
          (try simp only [Act.put, List.setIfInBounds_toArray, List.set_cons_zero, List.set_cons_succ])
          refine wpAnyN_take false (i := 1) (oi := ⟨some 32, _, _, _, _, _⟩) (v := ?_) rfl (by kernel_rfl) (by kernel_rfl) (by kernel_rfl) (fun _ _ _ h => h) (Or.inl ⟨by kernel_rfl, ?_⟩) ⟨HSN.out _ hax0, fun h => (by cases h)⟩ ?_
          rotate_left
          · (intro w hSw; obtain ⟨hSa, hSb⟩ := hSw; clear hSb; (try dsimp only at hSa); go_simp; try with_reducible rfl)
          (try simp only [Act.put, List.setIfInBounds_toArray, List.set_cons_zero, List.set_cons_succ])
          refine wpAnyN_step (i := 2) (by kernel_rfl) rfl (by kernel_rfl) ?_
          intro K' hK
          (try simp only [Act.put, List.setIfInBounds_toArray, List.set_cons_zero, List.set_cons_succ])
          go_simp
          go_at_call 83; refine HPLC.out.mono ?_; rintro en w8 ⟨vx, co2, rfl, hpx, hcx, hzx, hax⟩
          obtain ⟨Ax, dx, hvx⟩ := hpx.form
          rw [HXD.out] at hpx hvx ⊢
          obtain ⟨nx, hnx⟩ : ∃ nx, xp.ps.length = nx := ⟨_, rfl⟩
          rw [hnx] at hvx
          subst hvx
          refine hK.out _ _ (HSN.out _ hax) (fun _ _ => (HSF.out _ hax)) ?_
          clear hK K'
          (try simp only [Act.put, List.setIfInBounds_toArray, List.set_cons_zero, List.set_cons_succ])
          have HPU8 := Lib.hid (planPut_any n m vp (.slice Ax nx dx) L xp w8 (HST7.out.pls8 hax) hpx.any HLE.out HPO.out HXO.out (posU (dropT L xp.u) xp.u) (posU_at _ _ HAS.out))
          unfold planA plA RetPn planA at HPU8
          unfold plA
          refine wpAnyN_step (i := 3) (by kernel_rfl) rfl (by kernel_rfl) ?_
          intro K' hK
          (try simp only [Act.put, List.setIfInBounds_toArray, List.set_cons_zero, List.set_cons_succ])
          go_simp
          go_at_call 81; refine HPU8.out.mono ?_; rintro en w9 ⟨v9, rfl, hpl9, hb9⟩
          obtain ⟨A9, c9, hv9, _, _⟩ := hpl9.form
          obtain ⟨n9, hn9⟩ : ∃ n9, (putPl (dropT L xp.u) xp (posU (dropT L xp.u) xp.u)).length = n9 := ⟨_, rfl⟩
          rw [hn9] at hv9
          subst hv9
          have hax9 := hax.trans (Apart.of_below (F := fun b => b = C ∨ b = R) hb9) fun _ _ e => e
          refine hK.out _ _ (HSN.out _ hax9) (fun _ _ => (HSF.out _ hax9)) ?_
          clear hK K'
          (try simp only [Act.put, List.setIfInBounds_toArray, List.set_cons_zero, List.set_cons_succ])
          have HST9 := Lib.hid (HST7.out.put hax hcx hzx hb9 hpl9 HNL.out)
          refine wpAnyN_step (i := 4) (by kernel_rfl) rfl (by kernel_rfl) ?_
          intro K' hK
          (try simp only [Act.put, List.setIfInBounds_toArray, List.set_cons_zero, List.set_cons_succ])
          refine wp_store_row _ _ _ rfl F #[.int .i64 n, .int .u32 m, .slice A9 n9 c9] (by simp [Act.eval, Act.put]) (by simp [Act.eval, Act.put]) 26 _ (HST7.out.box9 hax hb9) (Tryz.sizePn _ _ _) rfl (one3 _ _ _ _ _) ?_
          refine hK.out _ _ (HSS.out _ _ hax9) (fun h => by cases h) ?_
          clear hK K'
          (try simp only [Act.put, List.setIfInBounds_toArray, List.set_cons_zero, List.set_cons_succ])
          refine wpAnyN_done (by kernel_rfl) ?_
          clear hax hcx hzx hb9 hpl9 hax9 hax0 hn9 HPU8 hpx hnx n0 n1
          go_wp2_with fail
          go_roundg (k1 - (k + 1))
          case measure => have := HGS.out; omega
          case rel =>
            refine ⟨k + 1, co2, .slice A9 n9 c9, by omega, rfl, by go_num, ?_⟩
            rw [HS1.out]
            exact HST9.out
        · have hltz : ¬ (k : Int) < (k1 : Int) := by omega
          have htk : ws.take k = ws := List.take_of_length_le (by rw [HNW.out]; omega)
          rw [htk] at hst
          have hQn : ¬ (Q = F ∨ Q = C ∨ Q = R) := by have := HLT6.out; have := HCR.out; omega
          have HQB7 := Lib.hid ((hst.apart.block Q (heap_lt HQB6.out) hQn).trans HQB6.out)
          have HEND : Hid (RetSplit n m l ws w (.returned (.tuple #[planA n m vp, .int .i64 0])) (wr.setRow Q #[.int .i64 n, .int .u32 m, vp])) := Lib.hid ⟨0, HWH.out, below_row (HB6.out.trans (hst.apart.below HB6.out.size fun b hb e => by have := HLT6.out; have := HCR.out; have := HB3.out.size; omega)) (by have := HLT.out; omega) _, .inl ⟨rfl, vp, rfl,
            (PlsIn.setRow hst.pls (.inl fun h => by have := h.1; have := heap_lt HQB4.out; omega)).mono fun b _ h => by have := h.1; have := HB4.out.size; omega⟩⟩
          obtain ⟨Av, cv, hvv, _, _⟩ := hst.pls.form
          obtain ⟨nv, hnv⟩ : ∃ nv, (chT n m l ws).1.length = nv := ⟨_, rfl⟩
          rw [hnv] at hvv
          subst hvv
          obtain ⟨f0, f1, f2⟩ := three_heads hst.box
          clear hg hst hnv htk
          go_wp2_with (refine wpList_store_row rfl _ _ _ rfl Q #[.int .i64 n, .int .u32 m, .slice Av nv cv] rfl rfl 26 _ HQB7.out (Tryz.sizePn _ _ _) rfl (one3 _ _ _ _ _) ?_)
          refine bodyPost_ret (v := .tuple #[planA n m (.slice Av nv cv), .int .i64 0]) (results_row_tmp rfl _ _ Q _ _ _ _ rfl (setRow_heap _ _ _ _ _ _ HQB7.out) Tryz.underlying26 rfl (Tryz.sizePn _ _ _) _ rfl) rfl ?_
          exact HEND.out
  · have hb0 : (E != 0) = true := by simpa using he
    have HE := Lib.hid he
    clear he
    go_wp2_with (refine wpList_store_row rfl _ _ _ rfl Q #[.int .i64 0, .int .u32 0, .slice none 0 0] rfl rfl 26 _ HQB3.out (Tryz.sizePn _ _ _) rfl (one3 _ _ _ _ _) ?_)
    refine bodyPost_ret (v := .tuple #[planA 0 0 (.slice none 0 0), .int .i64 E]) (results_row_tmp rfl _ _ Q _ _ _ _ rfl (setRow_heap _ _ _ _ _ _ HQB3.out) Tryz.underlying26 rfl (Tryz.sizePn _ _ _) _ rfl) rfl ?_
    exact ⟨E, HWH.out, below_row HB3.out (by have := HLT.out; omega) _, .inr ⟨HE.out, rfl⟩⟩
end Go.Proofs.YtpfpojehcjmfnaaGreat
