/-
  The law HeapSorts.
  Conditions: what the argument reads as.
-/
import Derived.Test.YtademjmnoncieaaPlay
import Derived.Maps.Own
import Derived.Maps.OwnOps
import Derived.Maps.OwnSet
import Derived.Maps.Views
set_option linter.unusedVariables false
namespace Go.Proofs.Ytademjmnoncieaa
open Go.RowKit Go.Maps

theorem law6 : Keyed Try.prog 3 := int_keyed Try.underlying3
theorem zero6 (w : World) : (zeroValue 4).run Try.prog w = .ok (.bool false) w := by kernel_rfl
theorem bool_inv {P : Program} {e : TypeId} (he : P.underlying e = some .bool) {v : Value} {x : Bool} {ps : List MemPlace} (h : plainElem (H := Unit) P e v = some (.lit (.bool x), ps)) : v = .bool x := by
  unfold plainElem at h
  rw [he] at h
  cases v <;> simp at h
  rw [h.1]
theorem key6 (a : Nat) (h : a < 1024) : keyOf Try.prog 3 (.int .i64 a) = some (.int .i64 a) := keyOf_int_mk Try.underlying3 (WalkArith.wf_i64 (by omega))
theorem own_keep6 {H : Type} {w w' : World} {P : Program} {k : TypeId} {R : Value → Option (DataW H × List MemPlace)} {b n : Nat} {D : DataW H} (h : w.ownsMap P k R b n D) (e : w'.heap[b]? = w.heap[b]?) : w'.ownsMap P k R b n D := by
  obtain ⟨es, clock, hb, r⟩ := h
  exact ⟨es, clock, e.trans hb, r⟩

/-- A map of those who were met, apart from the heap. -/
structure Met (w : World) (hb kb : Nat) (lv : Value) (s : Hs) (mb i : Nat) (D : DataW Unit) : Prop where
  own : w.ownsMap Try.prog 3 (plainElem Try.prog 4) mb i D
  apart : ¬ Foot hb kb lv mb
  no : ∀ x, x < s.n → 0 < s.den x → D.atKey (.int .i64 (x : Nat)) (.lit (.bool false)) = .lit (.bool false)
theorem Met.look {w : World} {hb kb : Nat} {lv : Value} {s : Hs} {mb i : Nat} {D : DataW Unit} (h : Met w hb kb lv s mb i D) {x : Nat} (hx : x < s.n) (hd : 0 < s.den x) (h1 : x < 1024) :
    (Instr.lookup 47 (.map (some mb)) (.int .i64 x) false).run Try.prog w = .ok (.bool false) w := by
  obtain ⟨v, ps, hrun, hv⟩ := h.own.lookup law6 Try.underlying47 (zero6 w) (plainElem_bool Try.underlying4 false) (key6 x h1)
  rw [h.no x hx hd] at hv
  rw [hrun, bool_inv Try.underlying4 hv]
theorem Met.below {w w' : World} {hb kb : Nat} {lv : Value} {s : Hs} {mb i : Nat} {D : DataW Unit} (h : Met w hb kb lv s mb i D) (hb' : Below w.heap.size w w') : Met w' hb kb lv s mb i D :=
  ⟨own_keep6 h.own (hb'.block mb h.own.lt), h.apart, h.no⟩

/-- What was picked last is before all who are left. -/
def AfterL (s : Hs) (i last num den : Nat) : Prop := i = 0 ∨ ∀ x, x < s.n → 0 < s.den x → (num * s.den x < s.num x * den ∨ (num * s.den x = s.num x * den ∧ last < x))

def SortRel (B : Nat) (W0 : World) (hb kb N : Nat) (g : Nat) (s5 : Value) (wr : World) : Prop :=
  ∃ (k : Nat) (lv : Value) (s : Hs), k ≤ N ∧ g = N - k ∧ s5 = .int .i64 k ∧ Held B W0 wr hb kb lv s ∧ s.n = 64 ∧ s.m ≤ k
def PickRel (B : Nat) (W0 : World) (hb kb mb m0 : Nat) (g : Nat) (s8 s9 s10 s11 : Value) (wr : World) : Prop :=
  ∃ (i : Nat) (lv : Value) (s : Hs) (D : DataW Unit) (last num den : Nat), i ≤ m0 ∧ g = m0 - i ∧ s11 = .int .i64 i ∧ s8 = .int .i64 last ∧ s9 = .int .u64 num ∧ s10 = .int .u64 den ∧
    Held B W0 wr hb kb lv s ∧ s.n = 64 ∧ s.m + i = m0 ∧ Met wr hb kb lv s mb i D ∧ AfterL s i last num den ∧ num < 18446744073709551616 ∧ den < 18446744073709551616 ∧ last < 1024

set_option maxRecDepth 100000 in
set_option maxHeartbeats 64000000 in
theorem sorts_law (v : Value) (l : List ActH) (W : World) (h : ActsAt W v l) (hok : ∀ a ∈ l, ActOk a) : Calls Try.prog 4 #[v] W (Ans W) := by
  have HNEW := Lib.hid (new_ok W 64 (by decide) (by decide))
  have hmm := @run_makeMap Try.prog
  obtain ⟨A, c, rfl, hl, hat⟩ := h
  have HAT := Lib.hid hat
  have HOK := Lib.hid hok
  obtain ⟨len, hlen⟩ : ∃ n, l.length = n := ⟨_, rfl⟩
  have HLEN := Lib.hid hlen
  rw [hlen] at hl ⊢
  obtain ⟨N, hN⟩ : ∃ N, min len 200 = N := ⟨_, rfl⟩
  have HNN := Lib.hid hN
  have hN60 : N ≤ 200 := by omega
  clear hat hok hlen hN
  go_enter Try.func4, Try.ntmps4
  go_wp2_with fail
  refine HNEW.out.mono ?_
  rintro e w1 hnew
  have K0 := Lib.hid (Held.new (W0 := W) (Below.refl W.heap.size W) (Nat.le_refl _) hnew)
  obtain ⟨rfl, _, _⟩ := hnew
  obtain ⟨hb, hhb⟩ : ∃ hb, W.heap.size + 1 = hb := ⟨_, rfl⟩
  obtain ⟨B, hB⟩ : ∃ B, W.heap.size = B := ⟨_, rfl⟩
  rw [hhb] at K0 ⊢
  have K0 := Lib.hid (show Held B W w1 hb B (.slice none 0 0) (emptyS 64) by have := K0.out; rwa [hB] at this)
  have HBE := Lib.hid hB
  clear hhb hB HNEW
  go_wp2_with fail
  go_loopg [5] N (fun g s5 wr => SortRel B W hb B N g s5 wr)
  case atStart => exact ⟨0, _, _, Nat.zero_le _, rfl, rfl, K0.out, rfl, Nat.zero_le _⟩
  case round =>
    obtain ⟨k, lv, s, hk, hg, rfl, hheld, hsn, hsm⟩ := hrel
    have HG := Lib.hid hg
    have K := Lib.hid hheld
    have HSN := Lib.hid hsn
    have HSM := Lib.hid hsm
    clear hg hheld hsn hsm K0
    by_cases hlt : k < N
    · as_aux_lemma =>
        have y1 : (k : Int) < (len : Int) := by have := HNN.out; omega
        have y2 : (k : Int) < 200 := by omega
        obtain ⟨ab, off, hA0, hbl, hcell⟩ := HAT.out (by rw [HLEN.out]; omega)
        subst hA0
        obtain ⟨a, ha⟩ := ex_at6 (xs := l) (k := k) (by rw [HLEN.out]; omega)
        have HA := Lib.hid (HOK.out a (List.mem_of_getElem? ha))
        obtain ⟨hc0, hc1, hc2, hc3⟩ := (hcell k a ha).keep (K.out.bel.mono (by rw [HBE.out]; exact Nat.le_refl _)) hbl
        obtain ⟨kind, id, nu, de⟩ := a
        simp only at hc0 hc1 hc2 hc3
        have KD := Lib.hid (show Held B W wr.drew hb B lv s from K.out.below (below6_drewN (Below.refl _ _) 1))
        have hblB : ab < B := by rw [← HBE.out]; exact hbl
        have HBB := Lib.hid hblB
        clear hcell ha hc0
        by_cases hv : 0 ≤ id ∧ id < 64 ∧ 0 < de
        · obtain ⟨x, rfl⟩ : ∃ x : Nat, id = x := ⟨id.toNat, by omega⟩
          have P1 := Lib.hid (put_ok wr.drew hb B lv s x nu de KD.out.lies KD.out.ok (by rw [HSN.out]; omega) (by omega) HA.out.2.2.1 HA.out.2.2.2 (by have := HSM.out; omega))
          clear hv
          go_wp2_with fail
          go_region_held3 (fun w' => w'.cell? ⟨ab, off + k * 4 + 1, none⟩ = some (.int .i64 x) ∧ w'.cell? ⟨ab, off + k * 4 + 2, none⟩ = some (.int .u64 nu) ∧ w'.cell? ⟨ab, off + k * 4 + 3, none⟩ = some (.int .u64 de))
            (first
              | go_keep
              | (go_split_ands
                 refine ⟨?_, ?_, ?_⟩ <;> (rw [cell_of_same (ha3.block ab (by have := KD.out.hB; have := HBB.out; omega) (fun hf => by have := KD.out.foot hf; have := HBB.out; omega))]; assumption)))
            ((go_at_call 10; refine P1.out.mono ?_; rintro e w3 hm3; obtain ⟨lv3, s3, rfl, hh3, hc3, ha3, hg3⟩ := KD.out.mut hm3))
          have K3 := Lib.hid hh3
          have HN3 := Lib.hid (hc3.1.trans HSN.out)
          have HM3 := Lib.hid (show s3.m ≤ k + 1 by have h1 := hc3.2.1; have h2 := HSM.out; split at h1 <;> omega)
          clear hm3 hh3 hc3 ha3 hg3 P1
          go_wp2_with fail
          go_roundg (N - (k + 1))
          case measure => have := HG.out; omega
          case rel => exact ⟨k + 1, lv3, s3, by omega, rfl, by go_num, K3.out, HN3.out, HM3.out⟩
        · have P1 := Lib.hid (put_bad wr.drew hb B lv s id nu de KD.out.lies (by rw [HSN.out]; omega))
          clear hv
          go_wp2_with fail
          go_region_held3 (fun w' => w'.cell? ⟨ab, off + k * 4 + 1, none⟩ = some (.int .i64 id) ∧ w'.cell? ⟨ab, off + k * 4 + 2, none⟩ = some (.int .u64 nu) ∧ w'.cell? ⟨ab, off + k * 4 + 3, none⟩ = some (.int .u64 de))
            (go_keep)
            ((go_at_call 10; refine P1.out.mono ?_; rintro e w3 ⟨rfl, rfl⟩))
          go_wp2_with fail
          go_roundg (N - (k + 1))
          case measure => have := HG.out; omega
          case rel => exact ⟨k + 1, lv, s, by omega, rfl, by go_num, KD.out, HSN.out, Nat.le_trans HSM.out (Nat.le_succ k)⟩
    · have hk2 : k = N := by omega
      have ql := len_any _ hb B lv s K.out.lies
      obtain ⟨m0, hm0⟩ : ∃ m, s.m = m := ⟨_, rfl⟩
      have HM0 := Lib.hid (show s.m + 0 = m0 from hm0)
      have hm0b : m0 ≤ 200 := by have := HSM.out; omega
      rw [hm0] at ql
      have QL := Lib.hid ql
      have y1 : (len : Int) ≤ (k : Int) ∨ (200 : Int) ≤ (k : Int) := by have := HNN.out; omega
      clear ql hm0
      by_cases y2 : (k : Int) < (len : Int)
      · as_aux_lemma =>
        have y3 : decide ((k : Int) < 200) = false := decide_eq_false (by omega)
        have y4 : ¬ (k : Int) < 200 := by omega
        clear y1
        go_wp2_with fail
        refine QL.out.mono ?_
        rintro e w ⟨rfl, rfl⟩
        go_wp2_with fail
        generalize hw2 : wr.alloc (Obj.map #[] 0) = w2
        have KM := Lib.hid (show Held B W w2 hb B lv s by rw [← hw2]; exact K.out.below ((Below.refl _ _).alloc (Nat.le_refl _) _))
        have HMET := Lib.hid (show Met w2 hb B lv s wr.heap.size 0 (.map []) by
          rw [← hw2]
          exact ⟨World.ownsMap_made _ _ _ _, fun hf => by have := K.out.lies.foot hf; omega, fun x _ _ => rfl⟩)
        have HMB := Lib.hid (show B ≤ wr.heap.size from K.out.hB)
        generalize wr.heap.size = mb at HMET HMB ⊢
        clear hw2
        go_loopg [8, 9, 10, 11] m0 (fun g s8 s9 s10 s11 wr => PickRel B W hb B mb m0 g s8 s9 s10 s11 wr)
        case atStart => exact ⟨0, lv, s, .map [], 0, 0, 1, Nat.zero_le _, rfl, rfl, rfl, rfl, rfl, KM.out, HSN.out, HM0.out, HMET.out, .inl rfl, by decide, by decide, by decide⟩
        case round =>
          obtain ⟨i, lv2, s2, D, last, num, den, hi, hgi, rfl, rfl, rfl, rfl, hheld, hsn2, hsm2, hmet, haft, hnum, hden, hlast⟩ := hrel
          have HGI := Lib.hid hgi
          have KI := Lib.hid hheld
          have HN2 := Lib.hid hsn2
          have HM2 := Lib.hid hsm2
          have HME := Lib.hid hmet
          have HAF := Lib.hid haft
          have HNU := Lib.hid hnum
          have HDE := Lib.hid hden
          clear hgi hheld hsn2 hsm2 hmet haft hnum hden K KM HMET QL
          by_cases hlt2 : i < m0
          · have x1 : (i : Int) < (m0 : Int) := by omega
            have hmpos : s2.m ≠ 0 := by have := HM2.out; omega
            have hlo := KI.out.ok.c.lo 0 (by omega)
            have hon := KI.out.ok.c.on 0 (by omega)
            obtain ⟨y, hy⟩ : ∃ y, s2.L 0 = y := ⟨_, rfl⟩
            rw [hy] at hlo hon
            have HY := Lib.hid hy
            have HLO := Lib.hid hlo
            have HON := Lib.hid hon
            have hy64 : y < 64 := by rw [← HN2.out]; exact hlo
            have t1 := min_any _ hb B lv2 s2 KI.out.lies
            unfold minV at t1
            rw [if_neg hmpos, hy] at t1
            have T1 := Lib.hid t1
            have hkv : keyV s2 (y : Int) = .tuple #[.int .u64 (s2.num y), .int .u64 (s2.den y), .bool true] := by
              unfold keyV
              rw [hasKey_nat, decide_eq_true ⟨hlo, hon⟩, if_pos rfl, Int.toNat_natCast]
            have t2 := key_any _ hb B lv2 s2 (y : Int) KI.out.lies
            rw [hkv] at t2
            have hb1 := KI.out.lies.w1 y hlo
            have hb2 := KI.out.lies.w2 y hlo
            have HB1 := Lib.hid hb1
            have HB2 := Lib.hid hb2
            obtain ⟨a, ha⟩ : ∃ a, s2.num y = a := ⟨_, rfl⟩
            obtain ⟨b, hbb⟩ : ∃ b, s2.den y = b := ⟨_, rfl⟩
            have HA := Lib.hid ha
            have HBB := Lib.hid hbb
            rw [ha, hbb] at t2
            have T2 := Lib.hid t2
            clear t1 t2 hkv hy hlo hon hb1 hb2 ha hbb
            go_wp2_with fail
            refine T1.out.mono ?_
            rintro e w ⟨rfl, rfl⟩
            go_wp2_with fail
            refine T2.out.mono ?_
            rintro e w3 ⟨rfl, h3⟩
            have K3 := Lib.hid (KI.out.below h3)
            have M3 := Lib.hid (HME.out.below h3)
            have t3 := pop_any w3 hb B lv2 s2 K3.out.lies K3.out.ok
            unfold minV at t3
            rw [if_neg hmpos, HY.out] at t3
            have T3 := Lib.hid t3
            clear t3 h3 T1 T2
            go_wp2_with fail
            refine T3.out.mono ?_
            rintro e w4 hm4
            obtain ⟨lv4, s4, rfl, hh4, hc4, ha4, hg4⟩ := K3.out.mut hm4
            unfold PopC at hc4
            rw [if_neg hmpos, HY.out] at hc4
            obtain ⟨c1, c2, c3, c4⟩ := hc4
            have K4 := Lib.hid hh4
            have hml3 := M3.out.own.lt
            have HAP := Lib.hid (show ¬ Foot hb B lv4 mb from fun hf => by
              rcases hf with hf | hf | hf
              · exact M3.out.apart (.inl hf)
              · exact M3.out.apart (.inr (.inl hf))
              · rcases hg4 mb hf with g | g
                · exact M3.out.apart (.inr (.inr g))
                · omega)
            have own4 := own_keep6 M3.out.own (ha4.block mb hml3 M3.out.apart)
            have OWN4 := Lib.hid own4
            have hlook := (show Met w4 hb B lv4 s2 mb i D from ⟨own4, HAP.out, M3.out.no⟩).look HLO.out HON.out (by omega)
            have HC1 := Lib.hid (c1.trans HN2.out)
            have HC2 := Lib.hid c2
            have HC3 := Lib.hid c3
            have HC4 := Lib.hid c4
            clear hm4 hh4 ha4 hg4 c1 c2 c3 c4 own4 hml3 T3
            go_wp2_with fail
            refine (refCompare_any num den a b HNU.out HDE.out (by rw [← HA.out]; exact HB1.out) (by rw [← HBB.out]; exact HB2.out) w4).mono ?_
            rintro e w5 ⟨rfl, h5⟩
            have K5 := Lib.hid (K4.out.below h5)
            have OWN5 := Lib.hid (own_keep6 OWN4.out (h5.block mb OWN4.out.lt))
            have hcmp : i = 0 ∨ (cmpN (num * b) (a * den) = -1 ∨ (cmpN (num * b) (a * den) = 0 ∧ last < y)) := by
              rcases HAF.out with h0 | hx
              · exact .inl h0
              · right
                have := hx y HLO.out HON.out
                rw [HA.out, HBB.out] at this
                unfold cmpN
                rcases this with h | ⟨h, h'⟩
                · left; rw [if_pos h]
                · right; rw [if_neg (by omega), if_pos h]; exact ⟨rfl, h'⟩
            generalize cmpN (num * b) (a * den) = cc at hcmp ⊢
            have HMM5 := Lib.hid (key6 y (by omega))
            have HFIN := Lib.hid (show ∀ w6, w6.ownsMap Try.prog 3 (plainElem (H := Unit) Try.prog 4) mb (i + 1) (D.put (.int .i64 (y : Nat)) (.lit (.bool true))) → w5.grownBy w6 (some mb) →
                PickRel B W hb B mb m0 (m0 - (i + 1)) (.int .i64 y) (.int .u64 a) (.int .u64 b) (.int .i64 (i + 1 : Nat)) w6 from fun w6 o6 g6 => by
              have hbw : Below B W w6 := (K5.out.bel).grown g6 K5.out.hB (fun k hk => by injection hk with hk; subst hk; exact HMB.out)
              refine ⟨i + 1, lv4, s4, _, y, a, b, by omega, rfl, rfl, rfl, rfl, rfl, ⟨K5.out.lies.keep (fun k hf => g6.block k (K5.out.lies.foot hf) (fun e => HAP.out (by injection e with e; rw [← e]; exact hf))), K5.out.ok, K5.out.h1, K5.out.h2, K5.out.h3, hbw, Nat.le_trans K5.out.hB g6.size⟩, HC1.out, by have := HC2.out; have := HM2.out; omega, ⟨o6, HAP.out, fun x hx hd => ?_⟩, .inr fun x hx hd => ?_, by rw [← HA.out]; exact HB1.out, by rw [← HBB.out]; exact HB2.out, by omega⟩
              · rw [HC4.out] at hd
                have hne : x ≠ y := fun e => by subst e; rw [upd_same] at hd; omega
                rw [upd_other hne] at hd
                rw [Maps.atKey_put_other (by intro e; injection e with _ e; omega)]
                exact M3.out.no x (by rw [HN2.out, ← HC1.out]; exact hx) hd
              · rw [HC4.out] at hd ⊢
                have hne : x ≠ y := fun e => by subst e; rw [upd_same] at hd; omega
                rw [upd_other hne] at hd
                rw [HC3.out, upd_other hne, upd_other hne]
                have hx' : x < s2.n := by rw [HN2.out, ← HC1.out]; exact hx
                have q1 := (K3.out.ok.first hx' hd).2
                rw [HY.out] at q1
                have q2 := s2.o.tot x y hd HON.out hne
                rcases q2 with q2 | q2
                · exact absurd q2 q1
                · rw [← HA.out, ← HBB.out]
                  exact q2)
            have hcc : ∀ (z : Int), (i : Int) = z → True := fun _ _ => trivial
            clear h5 hlook hcc
            by_cases hi0 : i = 0
            · subst hi0
              clear hcmp
              go_wp2_with (at_mapUpdate; refine wpList_mapUpdate_own _ rfl _ _ _ 47 rfl 3 4 law6 Try.underlying47 _ mb _ _ rfl OWN5.out (by unfold maxLen; omega) _ _ _ rfl rfl HMM5.out _ [] (plainElem_bool Try.underlying4 true) ?_)
              intro w6 o6 g6
              have HF6 := Lib.hid (HFIN.out w6 o6 g6)
              clear o6 g6
              go_wp2_with fail
              go_roundg (m0 - (0 + 1))
              case measure => have := HGI.out; omega
              case rel => exact HF6.out
            · have hi1 : (0 : Int) < (i : Int) := by omega
              rcases hcmp with h0 | rfl | ⟨rfl, hly⟩
              · exact absurd h0 hi0
              · go_wp2_with (at_mapUpdate; refine wpList_mapUpdate_own _ rfl _ _ _ 47 rfl 3 4 law6 Try.underlying47 _ mb _ _ rfl OWN5.out (by unfold maxLen; omega) _ _ _ rfl rfl HMM5.out _ [] (plainElem_bool Try.underlying4 true) ?_)
                intro w6 o6 g6
                have HF6 := Lib.hid (HFIN.out w6 o6 g6)
                clear o6 g6
                go_wp2_with fail
                go_roundg (m0 - (i + 1))
                case measure => have := HGI.out; omega
                case rel => exact HF6.out
              · have hly2 : ¬ (y : Int) ≤ (last : Int) := by omega
                have hly3 : decide ((y : Int) ≤ (last : Int)) = false := decide_eq_false hly2
                go_wp2_with (at_mapUpdate; refine wpList_mapUpdate_own _ rfl _ _ _ 47 rfl 3 4 law6 Try.underlying47 _ mb _ _ rfl OWN5.out (by unfold maxLen; omega) _ _ _ rfl rfl HMM5.out _ [] (plainElem_bool Try.underlying4 true) ?_)
                intro w6 o6 g6
                have HF6 := Lib.hid (HFIN.out w6 o6 g6)
                clear o6 g6
                go_wp2_with fail
                go_roundg (m0 - (i + 1))
                case measure => have := HGI.out; omega
                case rel => exact HF6.out
          · have hi2 : i = m0 := by omega
            have hz : s2.m = 0 := by have := HM2.out; omega
            have ql := len_any _ hb B lv2 s2 KI.out.lies
            rw [hz] at ql
            have QL2 := Lib.hid ql
            have QP := Lib.hid (pop_none _ _ ql)
            have QA := Lib.hid (awake_any wr)
            clear ql
            go_wp2_with fail
            refine QP.out.mono ?_
            rintro e w ⟨rfl, rfl⟩
            go_wp2_with fail
            refine QL2.out.mono ?_
            rintro e w ⟨rfl, rfl⟩
            go_wp2_with fail
            refine QA.out.mono ?_
            rintro e w4 ⟨rfl, h4⟩
            have HFI := Lib.hid (KI.out.below h4).bel
            clear h4
            go_wp2_with fail
            go_ret
            exact ⟨rfl, by rw [HBE.out]; exact HFI.out⟩
      · as_aux_lemma =>
        have y3 : decide ((k : Int) < (len : Int)) = false := decide_eq_false y2
        clear y1
        go_wp2_with fail
        refine QL.out.mono ?_
        rintro e w ⟨rfl, rfl⟩
        go_wp2_with fail
        generalize hw2 : wr.alloc (Obj.map #[] 0) = w2
        have KM := Lib.hid (show Held B W w2 hb B lv s by rw [← hw2]; exact K.out.below ((Below.refl _ _).alloc (Nat.le_refl _) _))
        have HMET := Lib.hid (show Met w2 hb B lv s wr.heap.size 0 (.map []) by
          rw [← hw2]
          exact ⟨World.ownsMap_made _ _ _ _, fun hf => by have := K.out.lies.foot hf; omega, fun x _ _ => rfl⟩)
        have HMB := Lib.hid (show B ≤ wr.heap.size from K.out.hB)
        generalize wr.heap.size = mb at HMET HMB ⊢
        clear hw2
        go_loopg [8, 9, 10, 11] m0 (fun g s8 s9 s10 s11 wr => PickRel B W hb B mb m0 g s8 s9 s10 s11 wr)
        case atStart => exact ⟨0, lv, s, .map [], 0, 0, 1, Nat.zero_le _, rfl, rfl, rfl, rfl, rfl, KM.out, HSN.out, HM0.out, HMET.out, .inl rfl, by decide, by decide, by decide⟩
        case round =>
          obtain ⟨i, lv2, s2, D, last, num, den, hi, hgi, rfl, rfl, rfl, rfl, hheld, hsn2, hsm2, hmet, haft, hnum, hden, hlast⟩ := hrel
          have HGI := Lib.hid hgi
          have KI := Lib.hid hheld
          have HN2 := Lib.hid hsn2
          have HM2 := Lib.hid hsm2
          have HME := Lib.hid hmet
          have HAF := Lib.hid haft
          have HNU := Lib.hid hnum
          have HDE := Lib.hid hden
          clear hgi hheld hsn2 hsm2 hmet haft hnum hden K KM HMET QL
          by_cases hlt2 : i < m0
          · have x1 : (i : Int) < (m0 : Int) := by omega
            have hmpos : s2.m ≠ 0 := by have := HM2.out; omega
            have hlo := KI.out.ok.c.lo 0 (by omega)
            have hon := KI.out.ok.c.on 0 (by omega)
            obtain ⟨y, hy⟩ : ∃ y, s2.L 0 = y := ⟨_, rfl⟩
            rw [hy] at hlo hon
            have HY := Lib.hid hy
            have HLO := Lib.hid hlo
            have HON := Lib.hid hon
            have hy64 : y < 64 := by rw [← HN2.out]; exact hlo
            have t1 := min_any _ hb B lv2 s2 KI.out.lies
            unfold minV at t1
            rw [if_neg hmpos, hy] at t1
            have T1 := Lib.hid t1
            have hkv : keyV s2 (y : Int) = .tuple #[.int .u64 (s2.num y), .int .u64 (s2.den y), .bool true] := by
              unfold keyV
              rw [hasKey_nat, decide_eq_true ⟨hlo, hon⟩, if_pos rfl, Int.toNat_natCast]
            have t2 := key_any _ hb B lv2 s2 (y : Int) KI.out.lies
            rw [hkv] at t2
            have hb1 := KI.out.lies.w1 y hlo
            have hb2 := KI.out.lies.w2 y hlo
            have HB1 := Lib.hid hb1
            have HB2 := Lib.hid hb2
            obtain ⟨a, ha⟩ : ∃ a, s2.num y = a := ⟨_, rfl⟩
            obtain ⟨b, hbb⟩ : ∃ b, s2.den y = b := ⟨_, rfl⟩
            have HA := Lib.hid ha
            have HBB := Lib.hid hbb
            rw [ha, hbb] at t2
            have T2 := Lib.hid t2
            clear t1 t2 hkv hy hlo hon hb1 hb2 ha hbb
            go_wp2_with fail
            refine T1.out.mono ?_
            rintro e w ⟨rfl, rfl⟩
            go_wp2_with fail
            refine T2.out.mono ?_
            rintro e w3 ⟨rfl, h3⟩
            have K3 := Lib.hid (KI.out.below h3)
            have M3 := Lib.hid (HME.out.below h3)
            have t3 := pop_any w3 hb B lv2 s2 K3.out.lies K3.out.ok
            unfold minV at t3
            rw [if_neg hmpos, HY.out] at t3
            have T3 := Lib.hid t3
            clear t3 h3 T1 T2
            go_wp2_with fail
            refine T3.out.mono ?_
            rintro e w4 hm4
            obtain ⟨lv4, s4, rfl, hh4, hc4, ha4, hg4⟩ := K3.out.mut hm4
            unfold PopC at hc4
            rw [if_neg hmpos, HY.out] at hc4
            obtain ⟨c1, c2, c3, c4⟩ := hc4
            have K4 := Lib.hid hh4
            have hml3 := M3.out.own.lt
            have HAP := Lib.hid (show ¬ Foot hb B lv4 mb from fun hf => by
              rcases hf with hf | hf | hf
              · exact M3.out.apart (.inl hf)
              · exact M3.out.apart (.inr (.inl hf))
              · rcases hg4 mb hf with g | g
                · exact M3.out.apart (.inr (.inr g))
                · omega)
            have own4 := own_keep6 M3.out.own (ha4.block mb hml3 M3.out.apart)
            have OWN4 := Lib.hid own4
            have hlook := (show Met w4 hb B lv4 s2 mb i D from ⟨own4, HAP.out, M3.out.no⟩).look HLO.out HON.out (by omega)
            have HC1 := Lib.hid (c1.trans HN2.out)
            have HC2 := Lib.hid c2
            have HC3 := Lib.hid c3
            have HC4 := Lib.hid c4
            clear hm4 hh4 ha4 hg4 c1 c2 c3 c4 own4 hml3 T3
            go_wp2_with fail
            refine (refCompare_any num den a b HNU.out HDE.out (by rw [← HA.out]; exact HB1.out) (by rw [← HBB.out]; exact HB2.out) w4).mono ?_
            rintro e w5 ⟨rfl, h5⟩
            have K5 := Lib.hid (K4.out.below h5)
            have OWN5 := Lib.hid (own_keep6 OWN4.out (h5.block mb OWN4.out.lt))
            have hcmp : i = 0 ∨ (cmpN (num * b) (a * den) = -1 ∨ (cmpN (num * b) (a * den) = 0 ∧ last < y)) := by
              rcases HAF.out with h0 | hx
              · exact .inl h0
              · right
                have := hx y HLO.out HON.out
                rw [HA.out, HBB.out] at this
                unfold cmpN
                rcases this with h | ⟨h, h'⟩
                · left; rw [if_pos h]
                · right; rw [if_neg (by omega), if_pos h]; exact ⟨rfl, h'⟩
            generalize cmpN (num * b) (a * den) = cc at hcmp ⊢
            have HMM5 := Lib.hid (key6 y (by omega))
            have HFIN := Lib.hid (show ∀ w6, w6.ownsMap Try.prog 3 (plainElem (H := Unit) Try.prog 4) mb (i + 1) (D.put (.int .i64 (y : Nat)) (.lit (.bool true))) → w5.grownBy w6 (some mb) →
                PickRel B W hb B mb m0 (m0 - (i + 1)) (.int .i64 y) (.int .u64 a) (.int .u64 b) (.int .i64 (i + 1 : Nat)) w6 from fun w6 o6 g6 => by
              have hbw : Below B W w6 := (K5.out.bel).grown g6 K5.out.hB (fun k hk => by injection hk with hk; subst hk; exact HMB.out)
              refine ⟨i + 1, lv4, s4, _, y, a, b, by omega, rfl, rfl, rfl, rfl, rfl, ⟨K5.out.lies.keep (fun k hf => g6.block k (K5.out.lies.foot hf) (fun e => HAP.out (by injection e with e; rw [← e]; exact hf))), K5.out.ok, K5.out.h1, K5.out.h2, K5.out.h3, hbw, Nat.le_trans K5.out.hB g6.size⟩, HC1.out, by have := HC2.out; have := HM2.out; omega, ⟨o6, HAP.out, fun x hx hd => ?_⟩, .inr fun x hx hd => ?_, by rw [← HA.out]; exact HB1.out, by rw [← HBB.out]; exact HB2.out, by omega⟩
              · rw [HC4.out] at hd
                have hne : x ≠ y := fun e => by subst e; rw [upd_same] at hd; omega
                rw [upd_other hne] at hd
                rw [Maps.atKey_put_other (by intro e; injection e with _ e; omega)]
                exact M3.out.no x (by rw [HN2.out, ← HC1.out]; exact hx) hd
              · rw [HC4.out] at hd ⊢
                have hne : x ≠ y := fun e => by subst e; rw [upd_same] at hd; omega
                rw [upd_other hne] at hd
                rw [HC3.out, upd_other hne, upd_other hne]
                have hx' : x < s2.n := by rw [HN2.out, ← HC1.out]; exact hx
                have q1 := (K3.out.ok.first hx' hd).2
                rw [HY.out] at q1
                have q2 := s2.o.tot x y hd HON.out hne
                rcases q2 with q2 | q2
                · exact absurd q2 q1
                · rw [← HA.out, ← HBB.out]
                  exact q2)
            have hcc : ∀ (z : Int), (i : Int) = z → True := fun _ _ => trivial
            clear h5 hlook hcc
            by_cases hi0 : i = 0
            · subst hi0
              clear hcmp
              go_wp2_with (at_mapUpdate; refine wpList_mapUpdate_own _ rfl _ _ _ 47 rfl 3 4 law6 Try.underlying47 _ mb _ _ rfl OWN5.out (by unfold maxLen; omega) _ _ _ rfl rfl HMM5.out _ [] (plainElem_bool Try.underlying4 true) ?_)
              intro w6 o6 g6
              have HF6 := Lib.hid (HFIN.out w6 o6 g6)
              clear o6 g6
              go_wp2_with fail
              go_roundg (m0 - (0 + 1))
              case measure => have := HGI.out; omega
              case rel => exact HF6.out
            · have hi1 : (0 : Int) < (i : Int) := by omega
              rcases hcmp with h0 | rfl | ⟨rfl, hly⟩
              · exact absurd h0 hi0
              · go_wp2_with (at_mapUpdate; refine wpList_mapUpdate_own _ rfl _ _ _ 47 rfl 3 4 law6 Try.underlying47 _ mb _ _ rfl OWN5.out (by unfold maxLen; omega) _ _ _ rfl rfl HMM5.out _ [] (plainElem_bool Try.underlying4 true) ?_)
                intro w6 o6 g6
                have HF6 := Lib.hid (HFIN.out w6 o6 g6)
                clear o6 g6
                go_wp2_with fail
                go_roundg (m0 - (i + 1))
                case measure => have := HGI.out; omega
                case rel => exact HF6.out
              · have hly2 : ¬ (y : Int) ≤ (last : Int) := by omega
                have hly3 : decide ((y : Int) ≤ (last : Int)) = false := decide_eq_false hly2
                go_wp2_with (at_mapUpdate; refine wpList_mapUpdate_own _ rfl _ _ _ 47 rfl 3 4 law6 Try.underlying47 _ mb _ _ rfl OWN5.out (by unfold maxLen; omega) _ _ _ rfl rfl HMM5.out _ [] (plainElem_bool Try.underlying4 true) ?_)
                intro w6 o6 g6
                have HF6 := Lib.hid (HFIN.out w6 o6 g6)
                clear o6 g6
                go_wp2_with fail
                go_roundg (m0 - (i + 1))
                case measure => have := HGI.out; omega
                case rel => exact HF6.out
          · have hi2 : i = m0 := by omega
            have hz : s2.m = 0 := by have := HM2.out; omega
            have ql := len_any _ hb B lv2 s2 KI.out.lies
            rw [hz] at ql
            have QL2 := Lib.hid ql
            have QP := Lib.hid (pop_none _ _ ql)
            have QA := Lib.hid (awake_any wr)
            clear ql
            go_wp2_with fail
            refine QP.out.mono ?_
            rintro e w ⟨rfl, rfl⟩
            go_wp2_with fail
            refine QL2.out.mono ?_
            rintro e w ⟨rfl, rfl⟩
            go_wp2_with fail
            refine QA.out.mono ?_
            rintro e w4 ⟨rfl, h4⟩
            have HFI := Lib.hid (KI.out.below h4).bel
            clear h4
            go_wp2_with fail
            go_ret
            exact ⟨rfl, by rw [HBE.out]; exact HFI.out⟩
end Go.Proofs.Ytademjmnoncieaa
