/-
  Put of the program.
  Conditions: the heap lies in memory, and is right.
-/
import Derived.Test.YtademjmnoncieaaRemove
import Derived.Maps.AppendAt
import Derived.WalkSpells
import Derived.Lib.SliceRun
set_option linter.unusedVariables false
namespace Go.Proofs.Ytademjmnoncieaa
open Go.RowKit

theorem Try.infoInt6 : (Try.prog.info? 3).map (fun i => (i.zero, i.size, i.bytes)) = some (some (.int .i64 0), 1, 8) := by kernel_rfl

def lineCells (L : Nat → Nat) (m : Nat) : List Value := (List.range m).map fun i => .int .i64 (L i)
theorem lineCells_length (L : Nat → Nat) (m : Nat) : (lineCells L m).length = m := by simp [lineCells]
theorem lineCells_get (L : Nat → Nat) (m i : Nat) (h : i < m) : (lineCells L m)[i]? = some (.int .i64 (L i)) := by simp [lineCells, h]
theorem LineAt.own {W : World} {lv : Value} {m : Nat} {L : Nat → Nat} (h : LineAt W lv m L) : W.ownsRow 0 3 1 lv m (lineCells L m) := by
  refine ⟨by rw [lineCells_length, Nat.mul_one], ?_⟩
  rcases h with h0 | ⟨g, cap, cur, rfl, e, h1, h2, h3, hc⟩
  · exact .inl h0
  · refine .inr ⟨g, cap, cur, rfl, Nat.zero_le _, e, h1, h2, by rw [h3, Nat.mul_one], ?_⟩
    apply List.ext_getElem?
    intro i
    rw [List.getElem?_take, Nat.mul_one]
    by_cases hi : i < m
    · rw [if_pos hi, lineCells_get _ _ _ hi, ← hc i hi]
      simp
    · rw [if_neg hi, List.getElem?_eq_none (by rw [lineCells_length]; omega)]
theorem LineAt.of_own {W : World} {lv : Value} {m x : Nat} {L : Nat → Nat} (h : W.ownsRow 0 3 1 lv (m + 1) (lineCells L m ++ [.int .i64 x])) : LineAt W lv (m + 1) (upd L m x) := by
  obtain ⟨h1, h2⟩ := h
  rcases h2 with ⟨rfl, h0⟩ | ⟨g, cap, cur, rfl, hg, hh, hn, hc, hs, ht⟩
  · omega
  · refine .inr ⟨g, cap, cur, rfl, hh, hn, hc, by rw [hs, Nat.mul_one], fun i hi => ?_⟩
    have e : cur[i]? = (lineCells L m ++ [Value.int .i64 x])[i]? := by
      rw [← ht, List.getElem?_take, if_pos (by omega)]
      simp
    rw [e]
    unfold upd
    by_cases hi' : i = m
    · subst hi'
      rw [List.getElem?_append_right (by rw [lineCells_length]; omega), lineCells_length, if_pos rfl]
      simp
    · rw [List.getElem?_append_left (by rw [lineCells_length]; omega), lineCells_get _ _ _ (by omega), if_neg hi']

theorem HeapAt.grow {W W' : World} {hb kb : Nat} {lv lv' : Value} {s : Hs} {x : Nat} {o : Obj} (h : HeapAt W hb kb lv s) (hm : s.m + 1 ≤ 100000) (hown : W'.ownsRow 0 3 1 lv' (s.m + 1) (lineCells s.L s.m ++ [.int .i64 x]))
    (hg : (W.alloc o).grownBy W' lv.ownBlock) (hloc : lv'.ownBlock = lv.ownBlock ∨ lv'.ownBlock = some (W.alloc o).heap.size) :
    HeapAt (W'.setCell ⟨hb, 1, none⟩ lv') hb kb lv' { s with m := s.m + 1, L := upd s.L s.m x } ∧ Apart (Foot hb kb lv) W (W'.setCell ⟨hb, 1, none⟩ lv') ∧ Grew W lv lv' := by
  have hold : ∀ k, k < W.heap.size → lv.ownBlock ≠ some k → W'.heap[k]? = W.heap[k]? := fun k hk hne =>
    (hg.block k (by simp; omega) (fun e => hne e.symm)).trans (Below.heap_alloc W o k hk)
  have l1 := h.lt1
  have l2 := h.lt2
  have e1 : lv'.ownBlock ≠ some hb := by
    rcases hloc with e | e
    · rw [e]; exact h.ne2
    · rw [e, World.size_alloc]; intro e'; injection e' with e'; omega
  have e2 : lv'.ownBlock ≠ some kb := by
    rcases hloc with e | e
    · rw [e]; exact h.ne3
    · rw [e, World.size_alloc]; intro e'; injection e' with e'; omega
  refine ⟨⟨?_, ?_, ?_, h.ne1, e1, e2, h.n0, h.n1, hm, h.w1, h.w2⟩, ?_, fun k hk => ?_⟩
  · exact heap_setCell_at _ _ _ _ _ _ _ ((hold hb l1 h.ne2).trans h.head)
  · obtain ⟨arr, e, r⟩ := h.keys
    exact ⟨arr, (Below.heap_setCell _ _ _ _ (fun e => h.ne1 e.symm)).trans ((hold kb l2 h.ne3).trans e), r⟩
  · have := LineAt.of_own hown
    rcases this with h0 | ⟨g, cap, cur, rfl, e, r⟩
    · exact absurd h0.2 (by omega)
    · exact .inr ⟨g, cap, cur, rfl, (Below.heap_setCell _ _ _ _ (fun e => e1 (by have e' : g = hb := e; rw [e']; rfl))).trans e, r⟩
  · refine Apart.set (F := Foot hb kb lv) (a := W) ⟨hg.os, hg.tape, hg.output, ?_, fun k hk hn => hold k hk (fun e => hn (Or.inr (Or.inr e)))⟩ (Or.inl (Or.inl rfl)) _
    have := hg.size
    simp at this
    omega
  · rcases hloc with e | e
    · exact .inl (by rw [← e]; exact hk)
    · right
      rw [e, World.size_alloc] at hk
      injection hk with hk
      omega

theorem key_nil_eq (w : World) (a : Addr) (n c : Nat) : (binOp .eql 50 (.slice (some a) n c) (.slice none 0 0)).run Try.prog w = .ok (.bool false) w :=
  Lib.run_eql_slice_nil w _ _ _ _ _ _ _ Try.underlying50
theorem key_nil_nil (w : World) : (binOp .eql 50 (.slice none 0 0) (.slice none 0 0)).run Try.prog w = .ok (.bool true) w :=
  Lib.run_eql_slice_nil w _ _ _ _ _ _ _ Try.underlying50

theorem own_form6 {w : World} {base e size n : Nat} {v : Value} {xs : List Value} (h : w.ownsRow base e size v n xs) : ∃ A c, v = .slice A n c := by
  rcases h.2 with ⟨rfl, h0⟩ | ⟨g, cap, cur, rfl, _⟩
  · exact ⟨none, 0, by rw [h0]⟩
  · exact ⟨_, _, rfl⟩
theorem HeapAt.drew {W : World} {hb kb : Nat} {lv : Value} {s : Hs} (h : HeapAt W hb kb lv s) : HeapAt W.drew hb kb lv s := h.drewN 1
theorem Apart.drew {F : Nat → Prop} {a w : World} (h : Apart F a w) : Apart F a w.drew := h.drewN 1

def PutC (s : Hs) (x nu de : Nat) (s' : Hs) : Prop := s'.n = s.n ∧ s'.m = (if 0 < s.den x then s.m else s.m + 1) ∧ s'.num = upd s.num x nu ∧ s'.den = upd s.den x de

theorem put_nil (W : World) (id nu de : Int) : Calls Try.prog 10 #[.pointer none, .int .i64 id, .int .u64 nu, .int .u64 de] W (Ret6 (.int .i64 2) W) := by
  go_enter Try.func10, Try.ntmps10
  go_wp2
  go_ret
  exact ⟨rfl, rfl⟩
theorem put_bare (W : World) (hb : Nat) (id nu de : Int) (h : Bare W hb) : Calls Try.prog 10 #[.pointer (some ⟨hb, 0, none⟩), .int .i64 id, .int .u64 nu, .int .u64 de] W (Ret6 (.int .i64 2) W) := by
  obtain ⟨c0, c1⟩ := h.heads
  have hq := key_nil_nil
  clear h
  go_enter Try.func10, Try.ntmps10
  go_wp2
  go_ret
  exact ⟨rfl, rfl⟩
set_option maxRecDepth 100000 in
set_option maxHeartbeats 2000000 in
theorem put_bad (W : World) (hb kb : Nat) (lv : Value) (s : Hs) (id : Int) (nu de : Nat) (h : HeapAt W hb kb lv s) (hbad : ¬ (0 ≤ id ∧ id < (s.n : Int) ∧ 0 < de)) :
    Calls Try.prog 10 #[.pointer (some ⟨hb, 0, none⟩), .int .i64 id, .int .u64 nu, .int .u64 de] W (Ret6 (.int .i64 1) W) := by
  obtain ⟨c0, c1, _, _⟩ := h.heads
  have hq := key_nil_eq
  clear h
  generalize s.n = n at *
  by_cases h0 : id < 0
  · clear hbad
    go_enter Try.func10, Try.ntmps10
    go_wp2
    go_ret
    exact ⟨rfl, rfl⟩
  · have z0 : decide (id < 0) = false := decide_eq_false h0
    have z0' : 0 ≤ id := by omega
    by_cases h1 : (n : Int) ≤ id
    · clear hbad
      go_enter Try.func10, Try.ntmps10
      go_wp2
      go_ret
      exact ⟨rfl, rfl⟩
    · have h2 : de = 0 := by omega
      subst h2
      have z1 : decide ((n : Int) ≤ id) = false := decide_eq_false h1
      have z2 : id < (n : Int) := by omega
      clear hbad
      go_enter Try.func10, Try.ntmps10
      go_wp2
      go_ret
      exact ⟨rfl, rfl⟩

set_option maxRecDepth 100000 in
set_option maxHeartbeats 16000000 in
theorem put_old (W : World) (hb kb : Nat) (lv : Value) (s : Hs) (x nu de : Nat) (h : HeapAt W hb kb lv s) (hk : Okay s) (hx : x < s.n) (hd : 0 < de) (ho : 0 < s.den x) (b1 : nu < 18446744073709551616) (b2 : de < 18446744073709551616) :
    Calls Try.prog 10 #[.pointer (some ⟨hb, 0, none⟩), .int .i64 x, .int .u64 nu, .int .u64 de] W (MutPost W hb kb lv (.int .i64 0) (PutC s x nu de)) := by
  have HH := has_any W hb kb lv s x h
  rw [hasKey_nat, decide_eq_true ⟨hx, ho⟩] at HH
  have HHAS := Lib.hid HH
  clear HH
  obtain ⟨c0, c1, _, _⟩ := h.heads
  have hq := key_nil_eq
  obtain ⟨k0, k1, k2⟩ := h.key hx
  have kf0 := h.keyf (x * 3)
  have kf1 := h.keyf (x * 3 + 1)
  have z0 : ¬ (x : Int) < 0 := by omega
  have z1 : (x : Int) < (s.n : Int) := by omega
  have z2 : ¬ (s.n : Int) ≤ (x : Int) := by omega
  have z3 : ((de : Int) == 0) = false := by simp; omega
  have z4 : decide ((s.n : Int) ≤ (x : Int)) = false := decide_eq_false z2
  obtain ⟨hc, hpl, hbut⟩ := hk.rekey (nu := nu) hx ho hd
  have HC := Lib.hid hc
  have HPL := Lib.hid hpl
  have HBUT := Lib.hid hbut
  have HA := Lib.hid h
  have HX := Lib.hid hx
  have HO := Lib.hid ho
  obtain ⟨v1, hv1⟩ : ∃ v, s.num x = v := ⟨_, rfl⟩
  obtain ⟨v2, hv2⟩ : ∃ v, s.den x = v := ⟨_, rfl⟩
  obtain ⟨n, hn⟩ : ∃ v, s.n = v := ⟨_, rfl⟩
  obtain ⟨p, hp⟩ : ∃ v, s.pl x = v := ⟨_, rfl⟩
  rw [hv1] at k0
  rw [hv2] at k1
  rw [hn] at c0 z1 z2 z4
  rw [hp] at k2
  have HN := Lib.hid hn
  have HP := Lib.hid hp
  clear hc hpl hbut h hk hx ho hv1 hv2 hn hp
  go_enter Try.func10, Try.ntmps10
  go_wp2_with fail
  refine HHAS.out.mono ?_
  rintro e w1 ⟨rfl, rfl⟩
  go_wp2_with fail
  go_region
  generalize hw3 : ((W.setCell { block := kb, off := x * 3 } (Value.int IntKind.u64 ↑nu)).setCell { block := kb, off := x * 3 + 1 } (Value.int IntKind.u64 ↑de)).drew = w3
  have H3 : HeapAt w3 hb kb lv (rekey s x nu de) := by
    rw [← hw3]
    exact ((HA.out.set_num (x := x) HX.out (v := nu) b1).set_den (x := x) HX.out (v := de) b2).drew
  have P3 : Apart (Foot hb kb lv) W w3 := by
    rw [← hw3]
    exact ((((Apart.refl _ W).set (.inl (.inr (.inl rfl))) _).set (.inl (.inr (.inl rfl))) _).drew)
  have HS := Lib.hid (settle_any w3 hb kb lv (rekey s x nu de) p H3 HC.out (by rw [← HP.out]; exact HPL.out) (by rw [← HP.out]; exact HBUT.out))
  obtain ⟨d0, _, _, _⟩ := H3.heads
  obtain ⟨_, _, j2⟩ := H3.key (x := x) HX.out
  rw [show (rekey s x nu de).n = n from HN.out] at d0
  rw [show (rekey s x nu de).pl x = p from HP.out] at j2
  have P3 := Lib.hid P3
  clear H3 hw3 c0 c1 k0 k1 k2 kf0 kf1 HA HHAS
  go_wp2_with fail
  refine HS.out.mono ?_
  rintro e w5 ⟨s5, rfl, l5, o5, h5, p5⟩
  have HH5 := Lib.hid h5
  have HP5 := Lib.hid (P3.out.trans p5 (fun _ _ h => h))
  have HO5 := Lib.hid o5
  have HL5 := Lib.hid l5
  clear h5 p5 o5 l5
  go_wp2_with fail
  go_returns
  refine ⟨lv, s5, rfl, HH5.out, HO5.out, ⟨HL5.out.1, ?_, HL5.out.2.2.1, HL5.out.2.2.2⟩, HP5.out, fun k hk => .inl hk⟩
  rw [HL5.out.2.1, if_pos HO.out]
  rfl

set_option maxRecDepth 100000 in
set_option maxHeartbeats 16000000 in
theorem put_new (W : World) (hb kb : Nat) (lv : Value) (s : Hs) (x nu de : Nat) (h : HeapAt W hb kb lv s) (hk : Okay s) (hx : x < s.n) (hd : 0 < de) (ho : s.den x = 0) (b1 : nu < 18446744073709551616) (b2 : de < 18446744073709551616) (hm : s.m + 1 ≤ 100000) :
    Calls Try.prog 10 #[.pointer (some ⟨hb, 0, none⟩), .int .i64 x, .int .u64 nu, .int .u64 de] W (MutPost W hb kb lv (.int .i64 0) (PutC s x nu de)) := by
  obtain ⟨i0, hi, hz0, hz1, hz2⟩ := info_parts Try.infoInt6
  have HH := has_any W hb kb lv s x h
  rw [hasKey_nat, decide_eq_false (fun h => by have := h.2; omega)] at HH
  have HHAS := Lib.hid HH
  clear HH
  obtain ⟨A, c, rfl⟩ := h.form
  obtain ⟨c0, c1, _, _⟩ := h.heads
  have hq := key_nil_eq
  obtain ⟨_, _, k2⟩ := h.key hx
  have kf2 := h.keyf (x * 3 + 2)
  have z0 : ¬ (x : Int) < 0 := by omega
  have z1 : (x : Int) < (s.n : Int) := by omega
  have z2 : ¬ (s.n : Int) ≤ (x : Int) := by omega
  have z3 : ((de : Int) == 0) = false := by simp; omega
  have z4 : decide ((s.n : Int) ≤ (x : Int)) = false := decide_eq_false z2
  obtain ⟨hc, hbut⟩ := hk.add (nu := nu) hx ho hd
  have HC := Lib.hid hc
  have HBUT := Lib.hid hbut
  have HA := Lib.hid h
  have HX := Lib.hid hx
  have HO := Lib.hid ho
  obtain ⟨n, hn⟩ : ∃ v, s.n = v := ⟨_, rfl⟩
  obtain ⟨m, hmm⟩ : ∃ v, s.m = v := ⟨_, rfl⟩
  obtain ⟨p, hp⟩ : ∃ v, s.pl x = v := ⟨_, rfl⟩
  rw [hn] at c0 z1 z2 z4
  rw [hmm] at c1
  rw [hp] at k2
  have HN := Lib.hid hn
  have HM := Lib.hid hmm
  have mb : m + 1 ≤ 100000 := by omega
  clear hc hbut h hk hx ho hn hp hmm hm
  go_enter Try.func10, Try.ntmps10
  go_wp2_with fail
  refine HHAS.out.mono ?_
  rintro e w1 ⟨rfl, rfl⟩
  go_wp2_with fail
  go_region
  generalize hw2 : (W.setCell { block := kb, off := x * 3 + 2 } (Value.int IntKind.i64 ↑m)).drew = w2
  have H2 : HeapAt w2 hb kb (.slice A s.m c) { s with pl := upd s.pl x m } := by
    rw [← hw2]
    exact (HA.out.set_pl (x := x) HX.out m).drew
  have P2 : Apart (Foot hb kb (.slice A s.m c)) W w2 := by
    rw [← hw2]
    exact (((Apart.refl _ W).set (.inl (.inr (.inl rfl))) _).drew)
  obtain ⟨d0, d1, f0, f1⟩ := H2.heads
  have d0' : w2.cell? ⟨hb, 0, none⟩ = some (.slice (some ⟨kb, 0, none⟩) n n) := by rw [← HN.out]; exact d0
  rw [HM.out] at d1
  have HOWN := H2.line.own
  change w2.ownsRow 0 3 1 (.slice A s.m c) s.m (lineCells s.L s.m) at HOWN
  rw [HM.out] at HOWN
  have HOWN := Lib.hid HOWN
  have lt1 := H2.lt1
  have HH2 := Lib.hid H2
  have HP2 := Lib.hid P2
  clear H2 P2 hw2 c0 c1 k2 kf2 HA HHAS d0
  go_wp2_with (at_builtin; refine wpList_append_own_at _ rfl _ _ 51 rfl 0 3 i0 (.int .i64 0) 1 8 Try.underlying51 hi hz0 hz1 hz2 rfl (by decide) _ _ _ rfl (HOWN.out.alloc _) ⟨w2.heap.size, 0, none⟩ 1 1 [.int .i64 x] rfl rfl ?c1 ?c2 ?c3 ?c4 ?c5 ?_)
  case c1 =>
    intro j u hj
    rcases j with _ | j
    · simpa [Addr.add] using hj
    · simp at hj
  case c2 => intro u hu; simp at hu; subst hu; rfl
  case c3 => unfold maxLen; omega
  case c4 => omega
  case c5 => omega
  intro v3 w3 hown3 hg3 _ hloc
  obtain ⟨A3, n3, rfl⟩ := own_form6 hown3
  have e1 := (hg3.block hb (by simp; omega) (fun e => HH2.out.ne2 (by rw [HM.out]; exact e.symm))).trans ((Below.heap_alloc w2 _ hb lt1).trans HH2.out.head)
  have e2 : w3.cell? ⟨hb, 1, none⟩ = some (.slice A s.m c) := by simp [World.cell?, e1]
  have e3 : w3.frozen? ⟨hb, 1, none⟩ = false := by simp [World.frozen?, e1]
  rw [HM.out] at e2
  have hloc' : (Value.slice A3 (m + 1) n3).ownBlock = (Value.slice A s.m c).ownBlock ∨ (Value.slice A3 (m + 1) n3).ownBlock = some (w2.alloc (.cells #[.int .i64 (x : Int)] 3)).heap.size := by rw [HM.out, World.size_alloc]; simpa using hloc
  have hg3' : (w2.alloc (.cells #[.int .i64 (x : Int)] 3)).grownBy w3 (Value.slice A s.m c).ownBlock := by rw [HM.out]; exact hg3
  obtain ⟨G1, G2, G3⟩ := HH2.out.grow (x := x) (lv' := .slice A3 (m + 1) n3) (by show s.m + 1 ≤ 100000; rw [HM.out]; exact mb) (by show w3.ownsRow 0 _ 1 _ (s.m + 1) (lineCells s.L s.m ++ _); rw [HM.out]; exact hown3) hg3' hloc'
  have HG1 := Lib.hid G1
  have HP3 := Lib.hid (HP2.out.trans G2 (fun _ _ h => h))
  have HG3 := Lib.hid (show Grew W (.slice A s.m c) (.slice A3 (m + 1) n3) from fun k hk => (G3 k hk).imp id (fun h => Nat.le_trans HP2.out.size h))
  clear hown3 hg3 hloc hg3' hloc' e1 G1 G2 G3 d1 d0' f0 f1 HH2 HP2
  go_wp2_with fail
  generalize hw4 : w3.setCell { block := hb, off := 1 } (Value.slice A3 (m + 1) n3) = w4 at HG1 HP3
  clear hw4 e2 e3
  obtain ⟨d0, _, _, _⟩ := HG1.out.heads
  obtain ⟨k0, k1, _⟩ := HG1.out.key (x := x) HX.out
  have kf0 := HG1.out.keyf (x * 3)
  have kf1 := HG1.out.keyf (x * 3 + 1)
  change w4.cell? ⟨hb, 0, none⟩ = some (.slice (some ⟨kb, 0, none⟩) s.n s.n) at d0
  change w4.cell? ⟨kb, x * 3, none⟩ = some (.int .u64 (s.num x)) at k0
  change w4.cell? ⟨kb, x * 3 + 1, none⟩ = some (.int .u64 (s.den x)) at k1
  rw [HN.out] at d0
  rw [HO.out] at k1
  generalize s.num x = v1 at k0
  go_region
  generalize hw5 : ((w4.setCell { block := kb, off := x * 3 } (Value.int IntKind.u64 ↑nu)).setCell { block := kb, off := x * 3 + 1 } (Value.int IntKind.u64 ↑de)).drew = w5
  have H5 : HeapAt w5 hb kb (.slice A3 (m + 1) n3) (addS s x nu de) := by
    rw [← hw5]
    have := ((HG1.out.set_num (x := x) HX.out (v := nu) b1).set_den (x := x) HX.out (v := de) b2).drew
    unfold addS
    rw [← HM.out] at this ⊢
    exact this
  have P5 : Apart (Foot hb kb (.slice A s.m c)) W w5 := by
    rw [← hw5]
    exact ((HP3.out.set (.inl (.inr (.inl rfl))) _).set (.inl (.inr (.inl rfl))) _).drew
  have HS := Lib.hid (settle_any w5 hb kb _ (addS s x nu de) m H5 HC.out (by show m < s.m + 1; rw [HM.out]; omega) (by have := HBUT.out; rw [HM.out] at this; show ButOne _ (upd s.L s.m x) (s.m + 1) m; rw [HM.out]; exact this))
  obtain ⟨d0, _, _, _⟩ := H5.heads
  obtain ⟨_, _, j2⟩ := H5.key (x := x) HX.out
  rw [show (addS s x nu de).n = n from HN.out] at d0
  rw [show (addS s x nu de).pl x = m by show upd s.pl x s.m x = m; rw [upd_same, HM.out]] at j2
  have HP5 := Lib.hid P5
  clear H5 P5 hw5 k0 k1 kf0 kf1 HG1 HP3
  go_wp2_with fail
  refine HS.out.mono ?_
  rintro e w6 ⟨s6, rfl, l6, o6, h6, p6⟩
  have HH6 := Lib.hid h6
  have HP6 := Lib.hid (HP5.out.trans p6 (F' := Foot hb kb (.slice A3 (m + 1) n3)) (fun k hk hf => by
    rcases hf with hf | hf | hf
    · exact .inl hf
    · exact .inr (.inl hf)
    · rcases HG3.out k hf with g | g
      · exact .inr (.inr g)
      · omega))
  have HO6 := Lib.hid o6
  have HL6 := Lib.hid l6
  clear h6 p6 o6 l6
  go_wp2_with fail
  go_returns
  refine ⟨_, s6, rfl, HH6.out, HO6.out, ⟨HL6.out.1, ?_, HL6.out.2.2.1, HL6.out.2.2.2⟩, HP6.out, HG3.out⟩
  rw [HL6.out.2.1, HO.out]
  rfl

/-- Put, of whatever is right. -/
theorem put_ok (W : World) (hb kb : Nat) (lv : Value) (s : Hs) (x nu de : Nat) (h : HeapAt W hb kb lv s) (hk : Okay s) (hx : x < s.n) (hd : 0 < de) (b1 : nu < 18446744073709551616) (b2 : de < 18446744073709551616) (hm : s.m + 1 ≤ 100000) :
    Calls Try.prog 10 #[.pointer (some ⟨hb, 0, none⟩), .int .i64 x, .int .u64 nu, .int .u64 de] W (MutPost W hb kb lv (.int .i64 0) (PutC s x nu de)) := by
  rcases Nat.eq_zero_or_pos (s.den x) with h0 | h0
  · exact put_new W hb kb lv s x nu de h hk hx hd h0 b1 b2 hm
  · exact put_old W hb kb lv s x nu de h hk hx hd h0 b1 b2
end Go.Proofs.Ytademjmnoncieaa
